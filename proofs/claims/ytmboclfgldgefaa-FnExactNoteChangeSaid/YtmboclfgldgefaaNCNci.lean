/-
  The program's NoteChange.
-/
import Derived.Test.YtmboclfgldgefaaNCNcp
import Derived.Test.YtmboclfgldgefaaNCOtp
import Derived.Test.YtmboclfgldgefaaNCLawLO
import Derived.Deep.CutRange

namespace Go.Proofs.Ytmboclfgldgefaa
open Go.RowKit Go.Maps
set_option linter.unusedVariables false
set_option maxRecDepth 20000

set_option maxHeartbeats 16000000 in
theorem implNoteChange_any (a : Option Addr) (xs : List TxV) (n c : Nat) (tx : Int) (x0 : Bool) (xt xk xv : Int) (xst : ByteArray) (x5 : Bool) (yt yk yv : Int) (yst : ByteArray) (w : World) (hn : xs.length = n) (hm : n ≤ 1048576) (hs : ∀ x ∈ xs, TxOk 1048576 x) (hr : TxRc w a xs) (hxb : xst.size ≤ 1048576) (hxa : yst.size ≤ 1048576) :
    Calls Try.prog 28 #[.slice a n c, .int .i64 tx, .agg #[.bool x0, .int .i64 xt, .int .i64 xk, .int .i64 xv, .string xst, .bool x5, .int .i64 yt, .int .i64 yk, .int .i64 yv, .string yst]] w fun e w' => NcPost (ncQ xs tx (⟨x0, ⟨xt, xk, xv, xst⟩, x5, ⟨yt, yk, yv, yst⟩⟩ : Chg)) (ncL xs tx (⟨x0, ⟨xt, xk, xv, xst⟩, x5, ⟨yt, yk, yv, yst⟩⟩ : Chg)) w e w' := by
  have HN : Hid (xs.length = n) := hn
  have HR : Hid (∀ V, Below w.heap.size w V → TxRd V a xs) := fun V hV => hr.rd.below hV (Nat.le_refl _)
  have HS : Hid (∀ x ∈ xs, TxOk 1048576 x) := hs
  have HF : Hid (∀ V, Below w.heap.size w V → Calls Try.prog 65 #[.slice a n c] V fun e w' => e = .returned (.int .i64 (txsQ xs)) ∧ Below V.heap.size V w') := fun V hV => by
    have h := implTxsFault_any a xs n c V hn hm hs (hr.below hV (Nat.le_refl _))
    rw [txs_eq] at h
    exact h
  have HP : Hid (∀ V, Below w.heap.size w V → Calls Try.prog 76 #[.slice a n c, .int .i64 tx] V fun e w' => e = .returned (.int .i64 (atI xs tx)) ∧ Below V.heap.size V w') := fun V hV => placeOfTx_any a xs n c tx V hn hm (hr.rd.below hV (Nat.le_refl _))
  have HL : Hid (∀ V, Below w.heap.size w V → Calls Try.prog 78 #[.slice a n c, .agg #[.int .i64 (kT (⟨x0, ⟨xt, xk, xv, xst⟩, x5, ⟨yt, yk, yv, yst⟩⟩ : Chg)), .int .i64 (kK (⟨x0, ⟨xt, xk, xv, xst⟩, x5, ⟨yt, yk, yv, yst⟩⟩ : Chg))]] V fun e w' => e = .returned (.int .i64 (lkr xs (ncK (⟨x0, ⟨xt, xk, xv, xst⟩, x5, ⟨yt, yk, yv, yst⟩⟩ : Chg)))) ∧ Below V.heap.size V w') := fun V hV => lockerOf_any a xs n c _ _ V hn hm hs (hr.rd.below hV (Nat.le_refl _))
  have HTb : Hid (∀ V, Below w.heap.size w V → txsQ xs = 0 → Calls Try.prog 79 #[.slice a n c] V fun e w' => e = .returned (.int .i64 (cntU xs)) ∧ Below V.heap.size V w') := fun V hV h0 => turnedBy_any a xs n c V hn (by rw [← hn]; exact (txs_sound h0).1) hs (hr.rd.below hV (Nat.le_refl _))
  have HOw : Hid (∀ V, Below w.heap.size w V → Calls Try.prog 80 #[.slice a n c] V fun e w' => ∃ a' c' hs, e = .returned (.slice a' n c') ∧ Below V.heap.size V w' ∧ w'.ownsRow V.heap.size 110 4 (.slice a' n c') hs.length (flat hdE hs) ∧ LsC V.heap.size w' hs xs) := fun V hV => ownTxs_any a xs n c V hn hm hs (hr.rd.below hV (Nat.le_refl _))
  have hml : ∀ {k : Nat}, k ≤ 1048576 → k ≤ maxLen := fun {k} h => by unfold maxLen; omega
  have HAl : Hid (∀ V, Calls Try.prog 51 #[.agg #[.bool x0, .int .i64 xt, .int .i64 xk, .int .i64 xv, .string xst, .bool x5, .int .i64 yt, .int .i64 yk, .int .i64 yv, .string yst]] V fun e w' => e = .returned (.int .i64 (alQ (⟨x0, ⟨xt, xk, xv, xst⟩, x5, ⟨yt, yk, yv, yst⟩⟩ : Chg))) ∧ Below V.heap.size V w') := fun V => aloneFault_any x0 xt xk xv xst x5 yt yk yv yst V (hml hxb) (hml hxa)
  have HCk : Hid (∀ V, Calls Try.prog 77 #[.agg #[.bool x0, .int .i64 xt, .int .i64 xk, .int .i64 xv, .string xst, .bool x5, .int .i64 yt, .int .i64 yk, .int .i64 yv, .string yst]] V fun e w' => e = .returned (.agg #[.int .i64 (kT (⟨x0, ⟨xt, xk, xv, xst⟩, x5, ⟨yt, yk, yv, yst⟩⟩ : Chg)), .int .i64 (kK (⟨x0, ⟨xt, xk, xv, xst⟩, x5, ⟨yt, yk, yv, yst⟩⟩ : Chg))]) ∧ Below V.heap.size V w') := fun V => changedKey_any (⟨x0, ⟨xt, xk, xv, xst⟩, x5, ⟨yt, yk, yv, yst⟩⟩ : Chg) V
  have HE : Hid (ncQ xs tx (⟨x0, ⟨xt, xk, xv, xst⟩, x5, ⟨yt, yk, yv, yst⟩⟩ : Chg) = if txsQ xs = 0 then (if atI xs tx < 0 then 4 else if alQ (⟨x0, ⟨xt, xk, xv, xst⟩, x5, ⟨yt, yk, yv, yst⟩⟩ : Chg) = 0 then (if lkr xs (ncK (⟨x0, ⟨xt, xk, xv, xst⟩, x5, ⟨yt, yk, yv, yst⟩⟩ : Chg)) ≠ 0 ∧ lkr xs (ncK (⟨x0, ⟨xt, xk, xv, xst⟩, x5, ⟨yt, yk, yv, yst⟩⟩ : Chg)) ≠ tx then 7 else if ncB xs tx (⟨x0, ⟨xt, xk, xv, xst⟩, x5, ⟨yt, yk, yv, yst⟩⟩ : Chg) = true then 2 else 0) else alQ (⟨x0, ⟨xt, xk, xv, xst⟩, x5, ⟨yt, yk, yv, yst⟩⟩ : Chg)) else txsQ xs) := rfl
  have HLs : Hid (ncL xs tx (⟨x0, ⟨xt, xk, xv, xst⟩, x5, ⟨yt, yk, yv, yst⟩⟩ : Chg) = if ncQ xs tx (⟨x0, ⟨xt, xk, xv, xst⟩, x5, ⟨yt, yk, yv, yst⟩⟩ : Chg) = 0 then ncR xs tx (⟨x0, ⟨xt, xk, xv, xst⟩, x5, ⟨yt, yk, yv, yst⟩⟩ : Chg) else []) := rfl
  have HAt : Hid (¬ atI xs tx < 0 → ∃ j : Nat, atI xs tx = (j : Int) ∧ xs[j]? = some (ncX xs tx) ∧ (ncX xs tx).id = tx) := nc_at
  have HNB : Hid (ncB xs tx (⟨x0, ⟨xt, xk, xv, xst⟩, x5, ⟨yt, yk, yv, yst⟩⟩ : Chg) = (decide (cntU xs = 12) || (decide ((ncX xs tx).l.length = 12) && decide (lkr xs (ncK (⟨x0, ⟨xt, xk, xv, xst⟩, x5, ⟨yt, yk, yv, yst⟩⟩ : Chg)) = 0)))) := rfl
  have HRR : Hid (ncR xs tx (⟨x0, ⟨xt, xk, xv, xst⟩, x5, ⟨yt, yk, yv, yst⟩⟩ : Chg) = xs.set (atI xs tx).toNat ⟨(ncX xs tx).id, (ncX xs tx).u ++ [(⟨x0, ⟨xt, xk, xv, xst⟩, x5, ⟨yt, yk, yv, yst⟩⟩ : Chg)], (ncX xs tx).m, withL (ncX xs tx).l ⟨kT (⟨x0, ⟨xt, xk, xv, xst⟩, x5, ⟨yt, yk, yv, yst⟩⟩ : Chg), kK (⟨x0, ⟨xt, xk, xv, xst⟩, x5, ⟨yt, yk, yv, yst⟩⟩ : Chg)⟩⟩) := rfl
  obtain ⟨Q, hQ⟩ : ∃ Q, ncQ xs tx (⟨x0, ⟨xt, xk, xv, xst⟩, x5, ⟨yt, yk, yv, yst⟩⟩ : Chg) = Q := ⟨_, rfl⟩
  obtain ⟨L0, hL0⟩ : ∃ L0, ncL xs tx (⟨x0, ⟨xt, xk, xv, xst⟩, x5, ⟨yt, yk, yv, yst⟩⟩ : Chg) = L0 := ⟨_, rfl⟩
  rw [hQ] at HE HLs
  rw [hL0] at HLs
  rw [hQ, hL0]
  clear hn hm hs hr hQ hL0 hml
  generalize txsQ xs = tq at HF HE HTb
  generalize atI xs tx = ai at HP HE HAt HRR
  generalize alQ (⟨x0, ⟨xt, xk, xv, xst⟩, x5, ⟨yt, yk, yv, yst⟩⟩ : Chg) = aq at HAl HE
  generalize lkr xs (ncK (⟨x0, ⟨xt, xk, xv, xst⟩, x5, ⟨yt, yk, yv, yst⟩⟩ : Chg)) = wh at HL HE HNB
  generalize cntU xs = cu at HTb HNB
  generalize ncB xs tx (⟨x0, ⟨xt, xk, xv, xst⟩, x5, ⟨yt, yk, yv, yst⟩⟩ : Chg) = nb at HE HNB
  generalize ncR xs tx (⟨x0, ⟨xt, xk, xv, xst⟩, x5, ⟨yt, yk, yv, yst⟩⟩ : Chg) = rr at HLs HRR
  generalize ncX xs tx = xx at HAt HNB HRR
  obtain ⟨kx, hkx⟩ : ∃ kx, kT (⟨x0, ⟨xt, xk, xv, xst⟩, x5, ⟨yt, yk, yv, yst⟩⟩ : Chg) = kx := ⟨_, rfl⟩
  obtain ⟨ky, hky⟩ : ∃ ky, kK (⟨x0, ⟨xt, xk, xv, xst⟩, x5, ⟨yt, yk, yv, yst⟩⟩ : Chg) = ky := ⟨_, rfl⟩
  rw [hkx, hky] at HL HCk HRR
  clear hkx hky
  go_enter Try.func28, Try.ntmps28
  go_upto_region 1 with (fail)
  generalize hY : World.alloc _ _ = Y
  have g : Below w.heap.size w Y := by rw [← hY]; go_grown
  have Z : ChC Y w.heap.size 0 (⟨x0, ⟨xt, xk, xv, xst⟩, x5, ⟨yt, yk, yv, yst⟩⟩ : Chg) := by rw [← hY]; exact ⟨by simp [go_sem], by simp [go_sem], by simp [go_sem], by simp [go_sem], by simp [go_sem], by simp [go_sem], by simp [go_sem], by simp [go_sem], by simp [go_sem], by simp [go_sem]⟩
  have hO : Nr2 Y (w.heap.size + 1) := by rw [← hY]; exact ⟨by simp [go_sem], by simp [go_sem], by simp [go_sem], by simp [go_sem]⟩
  clear hY
  obtain ⟨kb, hkb⟩ : ∃ kb, w.heap.size = kb := ⟨_, rfl⟩
  obtain ⟨ob, hob⟩ : ∃ ob, kb + 1 = ob := ⟨_, rfl⟩
  have hob1 : w.heap.size ≤ ob := by omega
  rw [hkb] at Z hO
  rw [hob] at hO
  simp only [hkb]
  try simp only [hob]
  have HKB : Hid (w.heap.size = kb) := hkb
  clear hkb hob
  have lZ := Z.lt
  have lO := hO.lt
  have HBx : Hid (∀ V, Below Y.heap.size Y V → ChC V kb 0 (⟨x0, ⟨xt, xk, xv, xst⟩, x5, ⟨yt, yk, yv, yst⟩⟩ : Chg)) := fun V hV => Z.below hV lZ
  have HOx : Hid (∀ V, Below Y.heap.size Y V → Nr2 V ob) := fun V hV => hO.below hV lO
  clear Z lZ
  go_wp2_with fail
  refine (HF.out Y g).mono ?_
  rintro e w2 ⟨rfl, gy⟩
  have hO := HOx.out w2 gy
  have g := g.trans (gy.mono g.size)
  by_cases h0 : tq = 0
  case neg =>
    have d0 : (tq != 0) = true := by simpa using h0
    have HX : Hid (Q = tq ∧ L0 = []) := by
      have h1 : Q = tq := by rw [HE.out, if_neg h0]
      exact ⟨h1, by rw [HLs.out, if_neg (by rw [h1]; exact h0)]⟩
    obtain ⟨o0, o1, of0, of1⟩ := hO
    go_wp2_with fail
    refine bodyPost_ret (v := .agg #[.int .i64 tq, .slice none 0 0]) (by simp [results, Try.results28, go_sem, *]) rfl ?_
    rw [HX.out.1, HX.out.2]
    exact nc_bad (below_s2 g hob1 _ _)
  subst h0
  have HE1 : Hid (Q = if ai < 0 then 4 else if aq = 0 then (if wh ≠ 0 ∧ wh ≠ tx then 7 else if nb = true then 2 else 0) else aq) := by have h := HE.out; show _ = _; simpa using h
  clear HE
  clear hO
  go_wp2_with fail
  refine (HP.out _ g).mono ?_
  rintro e w3 ⟨rfl, g3⟩
  have gy := gy.trans (g3.mono gy.size)
  have hO := HOx.out w3 gy
  have g := g.trans (g3.mono g.size)
  clear g3
  by_cases h1 : ai < 0
  case pos =>
    have HX : Hid (Q = 4 ∧ L0 = []) := by
      have h1 : Q = 4 := by rw [HE1.out, if_pos h1]
      exact ⟨h1, by rw [HLs.out, if_neg (by rw [h1]; decide)]⟩
    obtain ⟨o0, o1, of0, of1⟩ := hO
    go_wp2_with fail
    refine bodyPost_ret (v := .agg #[.int .i64 4, .slice none 0 0]) (by simp [results, Try.results28, go_sem, *]) rfl ?_
    rw [HX.out.1, HX.out.2]
    exact nc_bad (below_s2 g hob1 _ _)
  have HE2 : Hid (Q = if aq = 0 then (if wh ≠ 0 ∧ wh ≠ tx then 7 else if nb = true then 2 else 0) else aq) := by have h := HE1.out; show _ = _; rw [if_neg h1] at h; exact h
  clear HE1
  obtain ⟨j, hj, hx, hxid⟩ := HAt.out (by omega)
  subst hj
  have hj0 : decide ((j : Int) < 0) = false := by simp
  have HXx : Hid (xs[j]? = some xx) := hx
  have hxl : j < xs.length := (List.getElem?_eq_some_iff.1 hx).1
  have hjn : j < n := by rw [← HN.out]; exact hxl
  clear hO HAt hx hxid
  obtain ⟨q0, q1, q2, q3, q4, q5, q6, q7, q8, q9⟩ := HBx.out w3 gy
  dsimp only at q0 q1 q2 q3 q4 q5 q6 q7 q8 q9
  go_wp2_with fail
  refine (HAl.out _).mono ?_
  rintro e w4 ⟨rfl, g3⟩
  have gy := gy.trans (g3.mono gy.size)
  have hO := HOx.out w4 gy
  have g := g.trans (g3.mono g.size)
  clear g3 q0 q1 q2 q3 q4 q5 q6 q7 q8 q9
  by_cases h2 : aq = 0
  case neg =>
    have d0 : (aq != 0) = true := by simpa using h2
    have HX : Hid (Q = aq ∧ L0 = []) := by
      have h1 : Q = aq := by rw [HE2.out, if_neg h2]
      exact ⟨h1, by rw [HLs.out, if_neg (by rw [h1]; exact h2)]⟩
    obtain ⟨o0, o1, of0, of1⟩ := hO
    go_wp2_with fail
    refine bodyPost_ret (v := .agg #[.int .i64 aq, .slice none 0 0]) (by simp [results, Try.results28, go_sem, *]) rfl ?_
    rw [HX.out.1, HX.out.2]
    exact nc_bad (below_s2 g hob1 _ _)
  subst h2
  have HE3 : Hid (Q = if wh ≠ 0 ∧ wh ≠ tx then 7 else if nb = true then 2 else 0) := by have h := HE2.out; show _ = _; simpa using h
  clear HE2
  clear hO
  obtain ⟨q0, q1, q2, q3, q4, q5, q6, q7, q8, q9⟩ := HBx.out w4 gy
  dsimp only at q0 q1 q2 q3 q4 q5 q6 q7 q8 q9
  go_wp2_with fail
  refine (HCk.out _).mono ?_
  rintro e w5 ⟨rfl, g3⟩
  have gy := gy.trans (g3.mono gy.size)
  have g := g.trans (g3.mono g.size)
  clear g3 q0 q1 q2 q3 q4 q5 q6 q7 q8 q9
  go_upto_region 11 with (fail)
  generalize hY : World.alloc _ _ = Y5
  have g3 : Below w5.heap.size w5 Y5 := by rw [← hY]; go_grown
  have kR : R2 Y5 w5.heap.size kx ky := by rw [← hY]; exact ⟨by simp [go_sem], by simp [go_sem]⟩
  have gy := gy.trans (g3.mono gy.size)
  have g := g.trans (g3.mono g.size)
  clear hY g3
  generalize w5.heap.size = yb at kR ⊢
  have lK := kR.lt
  have HKy : Hid (∀ V, Below Y5.heap.size Y5 V → R2 V yb kx ky) := fun V hV => kR.below hV
  have HBx : Hid (∀ V, Below Y5.heap.size Y5 V → ChC V kb 0 (⟨x0, ⟨xt, xk, xv, xst⟩, x5, ⟨yt, yk, yv, yst⟩⟩ : Chg)) := fun V hV => HBx.out V (gy.trans (hV.mono gy.size))
  have HOx : Hid (∀ V, Below Y5.heap.size Y5 V → Nr2 V ob) := fun V hV => HOx.out V (gy.trans (hV.mono gy.size))
  obtain ⟨k0, k1⟩ := kR
  clear gy lK
  have hlk := HL.out _ g
  go_wp2_with fail
  refine hlk.mono ?_
  rintro e w6 ⟨rfl, gy⟩
  have hO := HOx.out w6 gy
  have g := g.trans (gy.mono g.size)
  clear hlk k0 k1
  by_cases h3 : wh ≠ 0 ∧ wh ≠ tx
  case pos =>
    have d1 : (wh != 0) = true := by simpa using h3.1
    have d2 : (wh != tx) = true := by simpa using h3.2
    have HX : Hid (Q = 7 ∧ L0 = []) := by
      have h1 : Q = 7 := by rw [HE3.out, if_pos h3]
      exact ⟨h1, by rw [HLs.out, if_neg (by rw [h1]; decide)]⟩
    obtain ⟨o0, o1, of0, of1⟩ := hO
    go_wp2_with fail
    refine bodyPost_ret (v := .agg #[.int .i64 7, .slice none 0 0]) (by simp [results, Try.results28, go_sem, *]) rfl ?_
    rw [HX.out.1, HX.out.2]
    exact nc_bad (below_s2 g hob1 _ _)
  have HE4 : Hid (Q = if nb = true then 2 else 0) := by have h := HE3.out; show _ = _; rw [if_neg h3] at h; exact h
  clear HE3
  obtain ⟨b, off, ua, ma, la, uc, mc, lc, e0, Zx⟩ := (HR.out w6 g).at HXx.out
  obtain rfl := e0
  have hok := HS.out xx (List.mem_of_getElem? HXx.out)
  obtain ⟨xid, xu, xm, xl⟩ := xx
  obtain ⟨k1, -, k3, k4⟩ := hok
  dsimp only at k1 k3 k4 HNB HRR
  have HZ3 : Hid (∀ V, Below w6.heap.size w6 V → V.cell? ⟨b, off + j * 4 + 3, none⟩ = some (.slice la xl.length lc)) := fun V hV => (Zx.below hV).c3
  clear Zx
  obtain ⟨xln, hxln⟩ : ∃ xln, xl.length = xln := ⟨_, rfl⟩
  have HXl : Hid (xl.length = xln) := hxln
  rw [hxln] at HZ3 HNB k4
  clear hxln
  go_upto_region 12 with (fail)
  go_cut [43] from 37 (fun s wc => s = .bool false ∧ wc = w6)
  case first =>
    by_cases hw : wh = 0
    · have d1 : (wh != 0) = false := by simp [hw]
      clear hO HBx HOx HKy HRR HNB hw
      go_wp2_with fail
      go_meet
      case rel => exact ⟨rfl, rfl⟩
    · have hw2 : wh = tx := by
        by_cases hw3 : wh = tx
        · exact hw3
        · exact absurd ⟨hw, hw3⟩ h3
      have d1 : (wh != 0) = true := by simpa using hw
      have d2 : (wh != tx) = false := by simp [hw2]
      clear hO HBx HOx HKy HRR HNB hw2
      go_wp2_with fail
      go_meet
      case rel => exact ⟨rfl, rfl⟩
  case rest =>
  obtain ⟨rfl, rfl⟩ := hcut
  go_upto_region 14 with (fail)
  go_cut [60] from 45 (fun s wx => s = .bool nb ∧ Below wc.heap.size wc wx)
  case first =>
    have z3 := HZ3.out wc (Below.refl _ _)
    have htb := HTb.out _ g (by trivial)
    clear hO HBx HOx HKy HRR HE4
    by_cases hc : cu = 12
    · have d1 : ((cu : Int) == 12) = true := by simp [hc]
      have HX : Hid (nb = true) := by show _ = _; rw [HNB.out, hc]; simp
      clear HNB hc
      go_wp2_with fail
      refine htb.mono ?_
      rintro e w7 ⟨rfl, g7⟩
      clear htb z3
      go_wp2_with fail
      go_meet
      case rel => exact ⟨by rw [HX.out], g7⟩
    · have d1 : ((cu : Int) == 12) = false := by simp; omega
      have HNB1 : Hid (nb = (decide (xln = 12) && decide (wh = 0))) := by show _ = _; rw [HNB.out]; simp [hc]
      clear HNB
      go_wp2_with fail
      refine htb.mono ?_
      rintro e w7 ⟨rfl, g7⟩
      have z3 := HZ3.out w7 g7
      clear htb
      by_cases hl : xln = 12
      · have d2 : ((xln : Int) == 12) = true := by simp [hl]
        by_cases hw : wh = 0
        · have d3 : (wh == 0) = true := by simp [hw]
          have HX : Hid (nb = true) := by show _ = _; rw [HNB1.out, hl, hw]; rfl
          clear HNB1 hw hl
          go_wp2_with fail
          go_meet
          case rel => exact ⟨by rw [HX.out], g7⟩
        · have d3 : (wh == 0) = false := by simpa using hw
          have HX : Hid (nb = false) := by show _ = _; rw [HNB1.out]; simp [hw]
          clear HNB1 hw hl
          go_wp2_with fail
          go_meet
          case rel => exact ⟨by rw [HX.out], g7⟩
      · have d2 : ((xln : Int) == 12) = false := by simp; omega
        have HX : Hid (nb = false) := by show _ = _; rw [HNB1.out]; simp [hl]
        clear HNB1
        go_wp2_with fail
        go_meet
        case rel => exact ⟨by rw [HX.out], g7⟩
  case rest =>
    obtain ⟨rfl, gz⟩ := hcut
    have gy := gy.trans (gz.mono gy.size)
    have g := g.trans (gz.mono g.size)
    obtain ⟨W6, hW6⟩ : ∃ W6, W6 = wc := ⟨_, rfl⟩
    subst hW6
    have hO := HOx.out W6 gy
    clear gz HZ3 HTb HF HP HAl HCk HL
    cases nb
    case true =>
      have HX : Hid (Q = 2 ∧ L0 = []) := by
        have h1 : Q = 2 := by rw [HE4.out, if_pos rfl]
        exact ⟨h1, by rw [HLs.out, if_neg (by rw [h1]; decide)]⟩
      clear HE4
      obtain ⟨o0, o1, of0, of1⟩ := hO
      go_wp2_with fail
      refine bodyPost_ret (v := .agg #[.int .i64 2, .slice none 0 0]) (by simp [results, Try.results28, go_sem, *]) rfl ?_
      rw [HX.out.1, HX.out.2]
      exact nc_bad (below_s2 g hob1 _ _)
    case false =>
      have HX : Hid (Q = 0 ∧ L0 = rr) := by
        have h1 : Q = 0 := by rw [HE4.out, if_neg (by decide)]
        exact ⟨h1, by rw [HLs.out, if_pos h1]⟩
      clear HE4 HLs HNB
      have HBx6 : Hid (∀ V, Below W6.heap.size W6 V → ChC V kb 0 (⟨x0, ⟨xt, xk, xv, xst⟩, x5, ⟨yt, yk, yv, yst⟩⟩ : Chg)) := fun V hV => HBx.out V (gy.trans (hV.mono gy.size))
      have HKy6 : Hid (∀ V, Below W6.heap.size W6 V → R2 V yb kx ky) := fun V hV => HKy.out V (gy.trans (hV.mono gy.size))
      have HOx6 : Hid (∀ V, Below W6.heap.size W6 V → Nr2 V ob) := fun V hV => HOx.out V (gy.trans (hV.mono gy.size))
      have lO6 : ob < W6.heap.size := hO.lt
      clear HBx HKy HOx hO gy
      have how := HOw.out W6 g
      go_wp2_with fail
      refine how.mono ?_
      rintro e W7 ⟨a7, c7, hs, rfl, g7, ho7, hL⟩
      clear how HOw
      have hsl : hs.length = n := by rw [hL.len]; exact HN.out
      obtain ⟨gb, rfl⟩ : ∃ gb, a7 = some ⟨gb, 0, none⟩ := by
        obtain ⟨_, ⟨_, e2⟩ | ⟨gb, cap, cur, e1, _⟩⟩ := ho7
        · omega
        · cases e1; exact ⟨gb, rfl⟩
      have hd : HdC W7 gb hs := HdC.of ho7
      have hG : TxBk W7 gb := TxBk.of ho7
      have hg6 : W6.heap.size ≤ gb := (ownsRow_lo ho7 gb rfl).1
      obtain ⟨hh, hi, t⟩ := hL.at HXx.out
      have HTl : Hid (hh.ln = xl.length) := t.ln
      obtain ⟨hid, hua, hun, huc, hma, hmn, hmc, hla, hln, hlc⟩ := hh
      have hlb : hln ≤ 10000000 := by have h1 : hln = xl.length := HTl.out; have h2 := HXl.out; omega
      have hjl : j < hs.length := by omega
      have HI : Hid (hs[j]? = some (⟨hid, hua, hun, huc, hma, hmn, hmc, hla, hln, hlc⟩ : TxH)) := hi
      have HLs : Hid (LsC W6.heap.size W7 hs xs) := hL
      obtain ⟨u1, hu1'⟩ : ∃ u1, xu.length + 1 = u1 := ⟨_, rfl⟩
      have hu1 : Hid (xu.length + 1 = u1) := hu1'
      have hjn' : (j : Int) < (n : Int) := by omega
      have HD : Hid (HdC W7 gb hs) := hd
      clear ho7 t hi hL hu1' hd HTl
      go_upto_region 18 with (fail)
      go_cut [] from 67 (fun wx => Below W6.heap.size W6 wx ∧ OwA W6.heap.size wx (some ⟨gb, 0, none⟩) (xs.set j (⟨xid, xu ++ [(⟨x0, ⟨xt, xk, xv, xst⟩, x5, ⟨yt, yk, yv, yst⟩⟩ : Chg)], xm, withL xl ⟨kx, ky⟩⟩ : TxV)))
      case first =>
        have hd := HD.out
        have hL := HLs.out
        have hi := HI.out
        have hx := HXx.out
        clear HN HR HS HRR HX HOx6 HXl HD HLs HI
        refine wp_region_held_drew (S := Below W6.heap.size W6) (by kernel_rfl) (g7.trans ((Below.refl _ W7).drew.mono g7.size)) (fun hHeld => ?_)
        have hd : HdC W7.drew gb hs := hd.block rfl
        have hG : TxBk W7.drew gb := hG.block rfl
        have L : LsC W6.heap.size W7.drew hs xs := hL.below (Below.refl _ W7).drew
        clear hL g7
        generalize W7.drew = D at hHeld hd hG L ⊢
        refine wpAnyH_take (i := 0) (v := ?v1) rfl (by kernel_rfl) (by kernel_rfl) (by kernel_rfl) (fun _ _ _ h => h) (Or.inl ⟨by kernel_rfl, ?h1⟩) hHeld ?_
        case h1 => intro u hSw; (obtain ⟨q0, q1, q2, q3, q4, q5, q6, q7, q8, q9⟩ := HBx6.out _ hSw; obtain ⟨y0, y1⟩ := HKy6.out _ hSw; dsimp only at q0 q1 q2 q3 q4 q5 q6 q7 q8 q9); go_simp; try with_reducible rfl
        try simp only [List.getElem_toArray]
        try simp only [List.getElem_cons_succ]
        try simp only [List.getElem_cons_zero]
        try simp only [Act.put]
        try simp only [List.setIfInBounds_toArray]
        try simp only [List.set]
        refine wpAnyH_take (i := 1) (v := ?v2) rfl (by kernel_rfl) (by kernel_rfl) (by kernel_rfl) (fun _ _ _ h => h) (Or.inl ⟨by kernel_rfl, ?h2⟩) hHeld ?_
        case h2 => intro u hSw; (obtain ⟨q0, q1, q2, q3, q4, q5, q6, q7, q8, q9⟩ := HBx6.out _ hSw; obtain ⟨y0, y1⟩ := HKy6.out _ hSw; dsimp only at q0 q1 q2 q3 q4 q5 q6 q7 q8 q9); go_simp; try with_reducible rfl
        try simp only [List.getElem_toArray]
        try simp only [List.getElem_cons_succ]
        try simp only [List.getElem_cons_zero]
        try simp only [Act.put]
        try simp only [List.setIfInBounds_toArray]
        try simp only [List.set]
        refine wpAnyH_take (i := 2) (v := ?v3) rfl (by kernel_rfl) (by kernel_rfl) (by kernel_rfl) (fun _ _ _ h => h) (Or.inl ⟨by kernel_rfl, ?h3⟩) hHeld ?_
        case h3 => intro u hSw; (obtain ⟨q0, q1, q2, q3, q4, q5, q6, q7, q8, q9⟩ := HBx6.out _ hSw; obtain ⟨y0, y1⟩ := HKy6.out _ hSw; dsimp only at q0 q1 q2 q3 q4 q5 q6 q7 q8 q9); go_simp; try with_reducible rfl
        try simp only [List.getElem_toArray]
        try simp only [List.getElem_cons_succ]
        try simp only [List.getElem_cons_zero]
        try simp only [Act.put]
        try simp only [List.setIfInBounds_toArray]
        try simp only [List.set]
        refine wpAnyH_take (i := 3) (v := ?v4) rfl (by kernel_rfl) (by kernel_rfl) (by kernel_rfl) (fun _ _ _ h => h) (Or.inl ⟨by kernel_rfl, ?h4⟩) hHeld ?_
        case h4 => intro u hSw; (obtain ⟨q0, q1, q2, q3, q4, q5, q6, q7, q8, q9⟩ := HBx6.out _ hSw; obtain ⟨y0, y1⟩ := HKy6.out _ hSw; dsimp only at q0 q1 q2 q3 q4 q5 q6 q7 q8 q9); go_simp; try with_reducible rfl
        try simp only [List.getElem_toArray]
        try simp only [List.getElem_cons_succ]
        try simp only [List.getElem_cons_zero]
        try simp only [Act.put]
        try simp only [List.setIfInBounds_toArray]
        try simp only [List.set]
        refine wpAnyH_take (i := 4) (v := ?v5) rfl (by kernel_rfl) (by kernel_rfl) (by kernel_rfl) (fun _ _ _ h => h) (Or.inl ⟨by kernel_rfl, ?h5⟩) hHeld ?_
        case h5 => intro u hSw; (obtain ⟨q0, q1, q2, q3, q4, q5, q6, q7, q8, q9⟩ := HBx6.out _ hSw; obtain ⟨y0, y1⟩ := HKy6.out _ hSw; dsimp only at q0 q1 q2 q3 q4 q5 q6 q7 q8 q9); go_simp; try with_reducible rfl
        try simp only [List.getElem_toArray]
        try simp only [List.getElem_cons_succ]
        try simp only [List.getElem_cons_zero]
        try simp only [Act.put]
        try simp only [List.setIfInBounds_toArray]
        try simp only [List.set]
        refine wpAnyH_take (i := 6) (v := ?v6) rfl (by kernel_rfl) (by kernel_rfl) (by kernel_rfl) (fun _ _ _ h => h) (Or.inl ⟨by kernel_rfl, ?h6⟩) hHeld ?_
        case h6 => intro u hSw; (obtain ⟨q0, q1, q2, q3, q4, q5, q6, q7, q8, q9⟩ := HBx6.out _ hSw; obtain ⟨y0, y1⟩ := HKy6.out _ hSw; dsimp only at q0 q1 q2 q3 q4 q5 q6 q7 q8 q9); go_simp; try with_reducible rfl
        try simp only [List.getElem_toArray]
        try simp only [List.getElem_cons_succ]
        try simp only [List.getElem_cons_zero]
        try simp only [Act.put]
        try simp only [List.setIfInBounds_toArray]
        try simp only [List.set]
        refine wpAnyH_take (i := 10) (v := ?v7) rfl (by kernel_rfl) (by kernel_rfl) (by kernel_rfl) (fun _ _ _ h => h) (Or.inl ⟨by kernel_rfl, ?h7⟩) hHeld ?_
        case h7 => intro u hSw; (obtain ⟨q0, q1, q2, q3, q4, q5, q6, q7, q8, q9⟩ := HBx6.out _ hSw; obtain ⟨y0, y1⟩ := HKy6.out _ hSw; dsimp only at q0 q1 q2 q3 q4 q5 q6 q7 q8 q9); go_simp; try with_reducible rfl
        try simp only [List.getElem_toArray]
        try simp only [List.getElem_cons_succ]
        try simp only [List.getElem_cons_zero]
        try simp only [Act.put]
        try simp only [List.setIfInBounds_toArray]
        try simp only [List.set]
        refine wpAnyH_take (i := 11) (v := ?v8) rfl (by kernel_rfl) (by kernel_rfl) (by kernel_rfl) (fun _ _ _ h => h) (Or.inl ⟨by kernel_rfl, ?h8⟩) hHeld ?_
        case h8 => intro u hSw; (obtain ⟨q0, q1, q2, q3, q4, q5, q6, q7, q8, q9⟩ := HBx6.out _ hSw; obtain ⟨y0, y1⟩ := HKy6.out _ hSw; dsimp only at q0 q1 q2 q3 q4 q5 q6 q7 q8 q9); go_simp; try with_reducible rfl
        try simp only [List.getElem_toArray]
        try simp only [List.getElem_cons_succ]
        try simp only [List.getElem_cons_zero]
        try simp only [Act.put]
        try simp only [List.setIfInBounds_toArray]
        try simp only [List.set]
        refine wpAnyH_take (i := 12) (v := ?v9) rfl (by kernel_rfl) (by kernel_rfl) (by kernel_rfl) (fun _ _ _ h => h) (Or.inl ⟨by kernel_rfl, ?h9⟩) hHeld ?_
        case h9 => intro u hSw; (obtain ⟨q0, q1, q2, q3, q4, q5, q6, q7, q8, q9⟩ := HBx6.out _ hSw; obtain ⟨y0, y1⟩ := HKy6.out _ hSw; dsimp only at q0 q1 q2 q3 q4 q5 q6 q7 q8 q9); go_simp; try with_reducible rfl
        try simp only [List.getElem_toArray]
        try simp only [List.getElem_cons_succ]
        try simp only [List.getElem_cons_zero]
        try simp only [Act.put]
        try simp only [List.setIfInBounds_toArray]
        try simp only [List.set]
        refine wpAnyH_take (i := 14) (v := ?v10) rfl (by kernel_rfl) (by kernel_rfl) (by kernel_rfl) (fun _ _ _ h => h) (Or.inl ⟨by kernel_rfl, ?h10⟩) hHeld ?_
        case h10 => intro u hSw; (obtain ⟨q0, q1, q2, q3, q4, q5, q6, q7, q8, q9⟩ := HBx6.out _ hSw; obtain ⟨y0, y1⟩ := HKy6.out _ hSw; dsimp only at q0 q1 q2 q3 q4 q5 q6 q7 q8 q9); go_simp; try with_reducible rfl
        try simp only [List.getElem_toArray]
        try simp only [List.getElem_cons_succ]
        try simp only [List.getElem_cons_zero]
        try simp only [Act.put]
        try simp only [List.setIfInBounds_toArray]
        try simp only [List.set]
        refine wpAnyH_ready (rs := [5, 7, 13]) (by kernel_rfl) (by simp) ?_
        refine AllReadyH.cons rfl (fun K hK => ?_) (AllReadyH.cons rfl (fun K hK => ?_) (AllReadyH.cons rfl (fun K hK => ?_) (AllReadyH.nil)))
        · obtain ⟨⟨z0, z1, z2, z3⟩, zf⟩ := hd j _ hi
          dsimp only at z0 z1 z2 z3
          go_simp
          refine hK.out _ _ hHeld (fun hHeld => ?_)
          clear hK K z0 z1 z2 z3 zf
          try simp only [Act.put]
          try simp only [List.setIfInBounds_toArray]
          try simp only [List.set]
          refine wpAnyH_ready (rs := [7, 13]) (by kernel_rfl) (by simp) ?_
          refine AllReadyH.cons rfl (fun K hK => ?_) (AllReadyH.cons rfl (fun K hK => ?_) (AllReadyH.nil))
          · go_simp
            go_wp2_with (go_at_call 52; refine (ownChange_any x0 xt xk xv xst x5 yt yk yv yst _ hxb hxa).mono ?_; rintro e U2 ⟨rfl, gg⟩)
            refine hK.out _ _ (hHeld.trans (gg.mono hHeld.size)) (fun hHeld => ?_)
            clear hK K
            have hd := hd.block (gg.block gb hG.lt)
            have hG := hG.block (gg.block gb hG.lt)
            have L := L.below gg
            clear gg
            try simp only [Act.put]
            try simp only [List.setIfInBounds_toArray]
            try simp only [List.set]
            refine wpAnyH_ready (rs := [8, 13]) (by kernel_rfl) (by simp) ?_
            refine AllReadyH.cons rfl (fun K hK => ?_) (AllReadyH.cons rfl (fun K hK => ?_) (AllReadyH.nil))
            · have gAl : Below U2.heap.size U2 (U2.alloc (.cells (chE (⟨x0, ⟨xt, xk, xv, xst⟩, x5, ⟨yt, yk, yv, yst⟩⟩ : Chg)).toArray 61)) := by go_grown
              have hrs : Rs chE 10 (U2.alloc (.cells (chE (⟨x0, ⟨xt, xk, xv, xst⟩, x5, ⟨yt, yk, yv, yst⟩⟩ : Chg)).toArray 61)) (some ⟨U2.heap.size, 0, none⟩) [(⟨x0, ⟨xt, xk, xv, xst⟩, x5, ⟨yt, yk, yv, yst⟩⟩ : Chg)] := rs_one (enc := chE) U2 (⟨x0, ⟨xt, xk, xv, xst⟩, x5, ⟨yt, yk, yv, yst⟩⟩ : Chg) 61
              go_simp
              refine hK.out _ _ (hHeld.trans (gAl.mono hHeld.size)) (fun hHeld => ?_)
              clear hK K
              have hd := hd.block (gAl.block gb hG.lt)
              have hG := hG.block (gAl.block gb hG.lt)
              have L := L.below gAl
              clear gAl
              generalize U2.heap.size = cb at hrs ⊢
              have eAl : U2.alloc (.cells (chE (⟨x0, ⟨xt, xk, xv, xst⟩, x5, ⟨yt, yk, yv, yst⟩⟩ : Chg)).toArray 61) = U2.alloc (.cells #[.bool x0, .int .i64 xt, .int .i64 xk, .int .i64 xv, .string xst, .bool x5, .int .i64 yt, .int .i64 yk, .int .i64 yv, .string yst] 61) := rfl
              try rw [eAl] at hrs
              try rw [eAl] at hd
              try rw [eAl] at hG
              try rw [eAl] at L
              try rw [eAl] at hHeld
              clear eAl
              generalize U2.alloc (.cells #[.bool x0, .int .i64 xt, .int .i64 xk, .int .i64 xv, .string xst, .bool x5, .int .i64 yt, .int .i64 yk, .int .i64 yv, .string yst] 61) = U3 at hrs hd hG L hHeld ⊢
              try simp only [Act.put]
              try simp only [List.setIfInBounds_toArray]
              try simp only [List.set]
              refine wpAnyH_ready (rs := [9, 13]) (by kernel_rfl) (by simp) ?_
              refine AllReadyH.cons rfl (fun K hK => ?_) (AllReadyH.cons rfl (fun K hK => ?_) (AllReadyH.nil))
              · have t := L.one j _ _ hi hx
                rw [if_pos (by kernel_rfl)]
                refine wp_append_sl elC _ _ _ rfl W6.heap.size (TxH.U (⟨hid, hua, hun, huc, hma, hmn, hmc, hla, hln, hlc⟩ : TxH)) xu [(⟨x0, ⟨xt, xk, xv, xst⟩, x5, ⟨yt, yk, yv, yst⟩⟩ : Chg)] (some ⟨cb, 0, none⟩) 1 1 rfl rfl rfl t.u hrs (show xu.length + 1 ≤ 100000000 by omega) hHeld.size ?_
                intro v4 U4 ho4 hg4 hob4
                refine hK.out _ _ (Below.grown hHeld hg4 hHeld.size (fun q e => (ownsRow_lo t.u q e).1)) (fun hHeld => ?_)
                clear hK K
                have hgb := hg4.block gb hG.lt (fun e => hG.ne t.u (by decide) e.symm)
                have hd := hd.block hgb
                have hG := hG.block hgb
                obtain ⟨a1, d1, e4, _⟩ := SlIn.ofRow chE_len ho4
                have hun1 : (xu ++ [(⟨x0, ⟨xt, xk, xv, xst⟩, x5, ⟨yt, yk, yv, yst⟩⟩ : Chg)]).length = u1 := by rw [List.length_append]; exact hu1.out
                rw [hun1] at e4
                subst e4
                have L := L.appU hi hx (a := a1) (n := u1) (c := d1) (us := xu ++ [(⟨x0, ⟨xt, xk, xv, xst⟩, x5, ⟨yt, yk, yv, yst⟩⟩ : Chg)]) (Kp.grown hg4) (Nx.of hob4) hun1.symm ho4
                clear t hgb hg4 hob4 ho4 hun1 hrs
                try simp only [Act.put]
                try simp only [List.setIfInBounds_toArray]
                try simp only [List.set]
                refine wpAnyH_ready (rs := [13]) (by kernel_rfl) (by simp) ?_
                refine AllReadyH.cons rfl (fun K hK => ?_) (AllReadyH.nil)
                obtain ⟨⟨z0, z1, z2, z3⟩, zf⟩ := hd j _ hi
                dsimp only at z0 z1 z2 z3
                go_simp
                refine hK.out _ _ hHeld (fun hHeld => ?_)
                clear hK K z0 z1 z2 z3 zf
                try simp only [Act.put]
                try simp only [List.setIfInBounds_toArray]
                try simp only [List.set]
                refine wpAnyH_ready (rs := [15]) (by kernel_rfl) (by simp) ?_
                refine AllReadyH.cons rfl (fun K hK => ?_) (AllReadyH.nil)
                have hi1 : (hs.set j (⟨hid, a1, u1, d1, hma, hmn, hmc, hla, hln, hlc⟩ : TxH))[j]? = some (⟨hid, a1, u1, d1, hma, hmn, hmc, hla, hln, hlc⟩ : TxH) := List.getElem?_set_self hjl
                have hx1 : (xs.set j ⟨xid, xu ++ [(⟨x0, ⟨xt, xk, xv, xst⟩, x5, ⟨yt, yk, yv, yst⟩⟩ : Chg)], xm, xl⟩)[j]? = some ⟨xid, xu ++ [(⟨x0, ⟨xt, xk, xv, xst⟩, x5, ⟨yt, yk, yv, yst⟩⟩ : Chg)], xm, xl⟩ := List.getElem?_set_self hxl
                have t := L.one j _ _ hi1 hx1
                have hcon := with_any W6 hla xl hln hlc kx ky U4 t.ln.symm hlb hHeld t.l
                go_simp
                go_wp2_with (go_at_call 81; refine hcon.mono ?_; rintro e U6 ⟨a2, d2, rfl, gB, o2, kp2, nx2⟩)
                refine hK.out _ _ gB (fun hHeld => ?_)
                clear hK K hcon gB
                have hgb := kp2.block gb hG.lt (fun e => hG.ne t.l (by decide) e.symm)
                have hd := hd.block hgb
                have hG := hG.block hgb
                have L := L.appL hi1 hx1 (a := a2) (n := (withL xl ⟨kx, ky⟩).length) (c := d2) (ls := withL xl ⟨kx, ky⟩) kp2 nx2 rfl o2
                rw [List.set_set, List.set_set] at L
                clear t hgb kp2 nx2 o2 hi1 hx1
                obtain ⟨l2, hl2⟩ : ∃ l2, (withL xl ⟨kx, ky⟩).length = l2 := ⟨_, rfl⟩
                rw [hl2] at L
                simp only [hl2]
                clear hl2
                try simp only [Act.put]
                try simp only [List.setIfInBounds_toArray]
                try simp only [List.set]
                refine wpAnyH_take (i := 16) (v := ?v11) rfl (by kernel_rfl) (by kernel_rfl) (by kernel_rfl) (fun _ _ _ h => h) (Or.inl ⟨by kernel_rfl, ?h11⟩) hHeld ?_
                case h11 => intro u hSw; clear hSw; go_simp; try with_reducible rfl
                try simp only [List.getElem_toArray]
                try simp only [List.getElem_cons_succ]
                try simp only [List.getElem_cons_zero]
                try simp only [Act.put]
                try simp only [List.setIfInBounds_toArray]
                try simp only [List.set]
                refine wpAnyH_take (i := 17) (v := ?v12) rfl (by kernel_rfl) (by kernel_rfl) (by kernel_rfl) (fun _ _ _ h => h) (Or.inl ⟨by kernel_rfl, ?h12⟩) hHeld ?_
                case h12 => intro u hSw; clear hSw; go_simp; try with_reducible rfl
                try simp only [List.getElem_toArray]
                try simp only [List.getElem_cons_succ]
                try simp only [List.getElem_cons_zero]
                try simp only [Act.put]
                try simp only [List.setIfInBounds_toArray]
                try simp only [List.set]
                obtain ⟨⟨z0, z1, z2, z3⟩, zf⟩ := hd j _ hi
                dsimp only at z0 z1 z2 z3
                have f1 := zf 1 (by omega)
                have T1 : Turned gb (gb + 1) U6 (U6.setCell ⟨gb, j * 4 + 1, none⟩ (.slice a1 u1 d1)) := (Turned.refl _ _ U6).setCell (p := ⟨gb, j * 4 + 1, none⟩) (Nat.le_refl _) (Nat.lt_succ_self _) _
                have hd1 : HdC (U6.setCell ⟨gb, j * 4 + 1, none⟩ (.slice a1 u1 d1)) gb (hs.set j (⟨hid, a1, u1, d1, hma, hmn, hmc, hla, hln, hlc⟩ : TxH)) := hd.set hi ⟨by rw [cell_off (by omega)]; exact z0, by simp [go_sem, z1], by rw [cell_off (by omega)]; exact z2, by rw [cell_off (by omega)]; exact z3⟩ (fun p hp => by rw [cell_off (by omega)]) (fun p => by rw [World.frozen?_setCell])
                have L1 := L.setBk T1 hG
                have hG1 := hG.set (j * 4 + 1) (.slice a1 u1 d1)
                refine wpAnyH_ready (rs := [18]) (by kernel_rfl) (by simp) ?_
                refine AllReadyH.cons rfl (fun K hK => ?_) AllReadyH.nil
                go_simp
                refine hK.out _ _ (hHeld.trans (T1.toBelow hHeld.size hg6)) (fun hHeld => ?_)
                clear hK K
                clear T1 z0 z1 z2 z3 zf f1 hd L hG
                generalize (U6.setCell ⟨gb, j * 4 + 1, none⟩ (.slice a1 u1 d1)) = Z1 at hd1 L1 hG1 hHeld ⊢
                try simp only [Act.put]
                try simp only [List.setIfInBounds_toArray]
                try simp only [List.set]
                refine wpAnyH_take (i := 19) (v := ?v13) rfl (by kernel_rfl) (by kernel_rfl) (by kernel_rfl) (fun _ _ _ h => h) (Or.inl ⟨by kernel_rfl, ?h13⟩) hHeld ?_
                case h13 => intro u hSw; clear hSw; go_simp; try with_reducible rfl
                try simp only [List.getElem_toArray]
                try simp only [List.getElem_cons_succ]
                try simp only [List.getElem_cons_zero]
                try simp only [Act.put]
                try simp only [List.setIfInBounds_toArray]
                try simp only [List.set]
                refine wpAnyH_take (i := 20) (v := ?v14) rfl (by kernel_rfl) (by kernel_rfl) (by kernel_rfl) (fun _ _ _ h => h) (Or.inl ⟨by kernel_rfl, ?h14⟩) hHeld ?_
                case h14 => intro u hSw; clear hSw; go_simp; try with_reducible rfl
                try simp only [List.getElem_toArray]
                try simp only [List.getElem_cons_succ]
                try simp only [List.getElem_cons_zero]
                try simp only [Act.put]
                try simp only [List.setIfInBounds_toArray]
                try simp only [List.set]
                have hi1 : (hs.set j (⟨hid, a1, u1, d1, hma, hmn, hmc, hla, hln, hlc⟩ : TxH))[j]? = some (⟨hid, a1, u1, d1, hma, hmn, hmc, hla, hln, hlc⟩ : TxH) := List.getElem?_set_self hjl
                obtain ⟨⟨z0, z1, z2, z3⟩, zf⟩ := hd1 j _ hi1
                dsimp only at z0 z1 z2 z3
                have f3 := zf 3 (by omega)
                have T1 : Turned gb (gb + 1) Z1 (Z1.setCell ⟨gb, j * 4 + 3, none⟩ (.slice a2 l2 d2)) := (Turned.refl _ _ Z1).setCell (p := ⟨gb, j * 4 + 3, none⟩) (Nat.le_refl _) (Nat.lt_succ_self _) _
                have hd2 : HdC (Z1.setCell ⟨gb, j * 4 + 3, none⟩ (.slice a2 l2 d2)) gb ((hs.set j (⟨hid, a1, u1, d1, hma, hmn, hmc, hla, hln, hlc⟩ : TxH)).set j (⟨hid, a1, u1, d1, hma, hmn, hmc, a2, l2, d2⟩ : TxH)) := hd1.set hi1 ⟨by rw [cell_off (by omega)]; exact z0, by rw [cell_off (by omega)]; exact z1, by rw [cell_off (by omega)]; exact z2, by simp [go_sem, z3]⟩ (fun p hp => by rw [cell_off (by omega)]) (fun p => by rw [World.frozen?_setCell])
                rw [List.set_set] at hd2
                have L2 := L1.setBk T1 hG1
                have hG2 := hG1.set (j * 4 + 3) (.slice a2 l2 d2)
                refine wpAnyH_ready (rs := [21]) (by kernel_rfl) (by simp) ?_
                refine AllReadyH.cons rfl (fun K hK => ?_) AllReadyH.nil
                go_simp
                refine hK.out _ _ (hHeld.trans (T1.toBelow hHeld.size hg6)) (fun hHeld => ?_)
                clear hK K
                clear T1 z0 z1 z2 z3 zf f3 hd1 L1 hG1 hi1
                generalize (Z1.setCell ⟨gb, j * 4 + 3, none⟩ (.slice a2 l2 d2)) = Z2 at hd2 L2 hG2 hHeld ⊢
                try simp only [Act.put]
                try simp only [List.setIfInBounds_toArray]
                try simp only [List.set]
                refine wpAnyH_done (by kernel_rfl) ?_ _
                have HOw : Hid (OwA W6.heap.size Z2 (some ⟨gb, 0, none⟩) (xs.set j (⟨xid, xu ++ [(⟨x0, ⟨xt, xk, xv, xst⟩, x5, ⟨yt, yk, yv, yst⟩⟩ : Chg)], xm, withL xl ⟨kx, ky⟩⟩ : TxV))) := L2.own hd2 hg6 (hG2.lists L2)
                have g9 := hHeld
                clear hHeld hd2 L2 hG2
                go_wp2_with fail
                go_meet
                case rel => exact ⟨g9, HOw.out⟩
              · obtain ⟨⟨z0, z1, z2, z3⟩, zf⟩ := hd j _ hi
                dsimp only at z0 z1 z2 z3
                go_simp
                refine hK.out _ _ hHeld (fun hHeld => ?_)
                clear hK K z0 z1 z2 z3 zf
                try simp only [Act.put]
                try simp only [List.setIfInBounds_toArray]
                try simp only [List.set]
                refine wpAnyH_ready (rs := [9]) (by kernel_rfl) (by simp) ?_
                refine AllReadyH.cons rfl (fun K hK => ?_) (AllReadyH.nil)
                have t := L.one j _ _ hi hx
                rw [if_pos (by kernel_rfl)]
                refine wp_append_sl elC _ _ _ rfl W6.heap.size (TxH.U (⟨hid, hua, hun, huc, hma, hmn, hmc, hla, hln, hlc⟩ : TxH)) xu [(⟨x0, ⟨xt, xk, xv, xst⟩, x5, ⟨yt, yk, yv, yst⟩⟩ : Chg)] (some ⟨cb, 0, none⟩) 1 1 rfl rfl rfl t.u hrs (show xu.length + 1 ≤ 100000000 by omega) hHeld.size ?_
                intro v4 U8 ho4 hg4 hob4
                refine hK.out _ _ (Below.grown hHeld hg4 hHeld.size (fun q e => (ownsRow_lo t.u q e).1)) (fun hHeld => ?_)
                clear hK K
                have hgb := hg4.block gb hG.lt (fun e => hG.ne t.u (by decide) e.symm)
                have hd := hd.block hgb
                have hG := hG.block hgb
                obtain ⟨a1, d1, e4, _⟩ := SlIn.ofRow chE_len ho4
                have hun1 : (xu ++ [(⟨x0, ⟨xt, xk, xv, xst⟩, x5, ⟨yt, yk, yv, yst⟩⟩ : Chg)]).length = u1 := by rw [List.length_append]; exact hu1.out
                rw [hun1] at e4
                subst e4
                have L := L.appU hi hx (a := a1) (n := u1) (c := d1) (us := xu ++ [(⟨x0, ⟨xt, xk, xv, xst⟩, x5, ⟨yt, yk, yv, yst⟩⟩ : Chg)]) (Kp.grown hg4) (Nx.of hob4) hun1.symm ho4
                clear t hgb hg4 hob4 ho4 hun1 hrs
                try simp only [Act.put]
                try simp only [List.setIfInBounds_toArray]
                try simp only [List.set]
                refine wpAnyH_ready (rs := [15]) (by kernel_rfl) (by simp) ?_
                refine AllReadyH.cons rfl (fun K hK => ?_) (AllReadyH.nil)
                have hi1 : (hs.set j (⟨hid, a1, u1, d1, hma, hmn, hmc, hla, hln, hlc⟩ : TxH))[j]? = some (⟨hid, a1, u1, d1, hma, hmn, hmc, hla, hln, hlc⟩ : TxH) := List.getElem?_set_self hjl
                have hx1 : (xs.set j ⟨xid, xu ++ [(⟨x0, ⟨xt, xk, xv, xst⟩, x5, ⟨yt, yk, yv, yst⟩⟩ : Chg)], xm, xl⟩)[j]? = some ⟨xid, xu ++ [(⟨x0, ⟨xt, xk, xv, xst⟩, x5, ⟨yt, yk, yv, yst⟩⟩ : Chg)], xm, xl⟩ := List.getElem?_set_self hxl
                have t := L.one j _ _ hi1 hx1
                have hcon := with_any W6 hla xl hln hlc kx ky U8 t.ln.symm hlb hHeld t.l
                go_simp
                go_wp2_with (go_at_call 81; refine hcon.mono ?_; rintro e U9 ⟨a2, d2, rfl, gB, o2, kp2, nx2⟩)
                refine hK.out _ _ gB (fun hHeld => ?_)
                clear hK K hcon gB
                have hgb := kp2.block gb hG.lt (fun e => hG.ne t.l (by decide) e.symm)
                have hd := hd.block hgb
                have hG := hG.block hgb
                have L := L.appL hi1 hx1 (a := a2) (n := (withL xl ⟨kx, ky⟩).length) (c := d2) (ls := withL xl ⟨kx, ky⟩) kp2 nx2 rfl o2
                rw [List.set_set, List.set_set] at L
                clear t hgb kp2 nx2 o2 hi1 hx1
                obtain ⟨l2, hl2⟩ : ∃ l2, (withL xl ⟨kx, ky⟩).length = l2 := ⟨_, rfl⟩
                rw [hl2] at L
                simp only [hl2]
                clear hl2
                try simp only [Act.put]
                try simp only [List.setIfInBounds_toArray]
                try simp only [List.set]
                refine wpAnyH_take (i := 16) (v := ?v15) rfl (by kernel_rfl) (by kernel_rfl) (by kernel_rfl) (fun _ _ _ h => h) (Or.inl ⟨by kernel_rfl, ?h15⟩) hHeld ?_
                case h15 => intro u hSw; clear hSw; go_simp; try with_reducible rfl
                try simp only [List.getElem_toArray]
                try simp only [List.getElem_cons_succ]
                try simp only [List.getElem_cons_zero]
                try simp only [Act.put]
                try simp only [List.setIfInBounds_toArray]
                try simp only [List.set]
                refine wpAnyH_take (i := 17) (v := ?v16) rfl (by kernel_rfl) (by kernel_rfl) (by kernel_rfl) (fun _ _ _ h => h) (Or.inl ⟨by kernel_rfl, ?h16⟩) hHeld ?_
                case h16 => intro u hSw; clear hSw; go_simp; try with_reducible rfl
                try simp only [List.getElem_toArray]
                try simp only [List.getElem_cons_succ]
                try simp only [List.getElem_cons_zero]
                try simp only [Act.put]
                try simp only [List.setIfInBounds_toArray]
                try simp only [List.set]
                obtain ⟨⟨z0, z1, z2, z3⟩, zf⟩ := hd j _ hi
                dsimp only at z0 z1 z2 z3
                have f1 := zf 1 (by omega)
                have T1 : Turned gb (gb + 1) U9 (U9.setCell ⟨gb, j * 4 + 1, none⟩ (.slice a1 u1 d1)) := (Turned.refl _ _ U9).setCell (p := ⟨gb, j * 4 + 1, none⟩) (Nat.le_refl _) (Nat.lt_succ_self _) _
                have hd1 : HdC (U9.setCell ⟨gb, j * 4 + 1, none⟩ (.slice a1 u1 d1)) gb (hs.set j (⟨hid, a1, u1, d1, hma, hmn, hmc, hla, hln, hlc⟩ : TxH)) := hd.set hi ⟨by rw [cell_off (by omega)]; exact z0, by simp [go_sem, z1], by rw [cell_off (by omega)]; exact z2, by rw [cell_off (by omega)]; exact z3⟩ (fun p hp => by rw [cell_off (by omega)]) (fun p => by rw [World.frozen?_setCell])
                have L1 := L.setBk T1 hG
                have hG1 := hG.set (j * 4 + 1) (.slice a1 u1 d1)
                refine wpAnyH_ready (rs := [18]) (by kernel_rfl) (by simp) ?_
                refine AllReadyH.cons rfl (fun K hK => ?_) AllReadyH.nil
                go_simp
                refine hK.out _ _ (hHeld.trans (T1.toBelow hHeld.size hg6)) (fun hHeld => ?_)
                clear hK K
                clear T1 z0 z1 z2 z3 zf f1 hd L hG
                generalize (U9.setCell ⟨gb, j * 4 + 1, none⟩ (.slice a1 u1 d1)) = Z1 at hd1 L1 hG1 hHeld ⊢
                try simp only [Act.put]
                try simp only [List.setIfInBounds_toArray]
                try simp only [List.set]
                refine wpAnyH_take (i := 19) (v := ?v17) rfl (by kernel_rfl) (by kernel_rfl) (by kernel_rfl) (fun _ _ _ h => h) (Or.inl ⟨by kernel_rfl, ?h17⟩) hHeld ?_
                case h17 => intro u hSw; clear hSw; go_simp; try with_reducible rfl
                try simp only [List.getElem_toArray]
                try simp only [List.getElem_cons_succ]
                try simp only [List.getElem_cons_zero]
                try simp only [Act.put]
                try simp only [List.setIfInBounds_toArray]
                try simp only [List.set]
                refine wpAnyH_take (i := 20) (v := ?v18) rfl (by kernel_rfl) (by kernel_rfl) (by kernel_rfl) (fun _ _ _ h => h) (Or.inl ⟨by kernel_rfl, ?h18⟩) hHeld ?_
                case h18 => intro u hSw; clear hSw; go_simp; try with_reducible rfl
                try simp only [List.getElem_toArray]
                try simp only [List.getElem_cons_succ]
                try simp only [List.getElem_cons_zero]
                try simp only [Act.put]
                try simp only [List.setIfInBounds_toArray]
                try simp only [List.set]
                have hi1 : (hs.set j (⟨hid, a1, u1, d1, hma, hmn, hmc, hla, hln, hlc⟩ : TxH))[j]? = some (⟨hid, a1, u1, d1, hma, hmn, hmc, hla, hln, hlc⟩ : TxH) := List.getElem?_set_self hjl
                obtain ⟨⟨z0, z1, z2, z3⟩, zf⟩ := hd1 j _ hi1
                dsimp only at z0 z1 z2 z3
                have f3 := zf 3 (by omega)
                have T1 : Turned gb (gb + 1) Z1 (Z1.setCell ⟨gb, j * 4 + 3, none⟩ (.slice a2 l2 d2)) := (Turned.refl _ _ Z1).setCell (p := ⟨gb, j * 4 + 3, none⟩) (Nat.le_refl _) (Nat.lt_succ_self _) _
                have hd2 : HdC (Z1.setCell ⟨gb, j * 4 + 3, none⟩ (.slice a2 l2 d2)) gb ((hs.set j (⟨hid, a1, u1, d1, hma, hmn, hmc, hla, hln, hlc⟩ : TxH)).set j (⟨hid, a1, u1, d1, hma, hmn, hmc, a2, l2, d2⟩ : TxH)) := hd1.set hi1 ⟨by rw [cell_off (by omega)]; exact z0, by rw [cell_off (by omega)]; exact z1, by rw [cell_off (by omega)]; exact z2, by simp [go_sem, z3]⟩ (fun p hp => by rw [cell_off (by omega)]) (fun p => by rw [World.frozen?_setCell])
                rw [List.set_set] at hd2
                have L2 := L1.setBk T1 hG1
                have hG2 := hG1.set (j * 4 + 3) (.slice a2 l2 d2)
                refine wpAnyH_ready (rs := [21]) (by kernel_rfl) (by simp) ?_
                refine AllReadyH.cons rfl (fun K hK => ?_) AllReadyH.nil
                go_simp
                refine hK.out _ _ (hHeld.trans (T1.toBelow hHeld.size hg6)) (fun hHeld => ?_)
                clear hK K
                clear T1 z0 z1 z2 z3 zf f3 hd1 L1 hG1 hi1
                generalize (Z1.setCell ⟨gb, j * 4 + 3, none⟩ (.slice a2 l2 d2)) = Z2 at hd2 L2 hG2 hHeld ⊢
                try simp only [Act.put]
                try simp only [List.setIfInBounds_toArray]
                try simp only [List.set]
                refine wpAnyH_done (by kernel_rfl) ?_ _
                have HOw : Hid (OwA W6.heap.size Z2 (some ⟨gb, 0, none⟩) (xs.set j (⟨xid, xu ++ [(⟨x0, ⟨xt, xk, xv, xst⟩, x5, ⟨yt, yk, yv, yst⟩⟩ : Chg)], xm, withL xl ⟨kx, ky⟩⟩ : TxV))) := L2.own hd2 hg6 (hG2.lists L2)
                have g9 := hHeld
                clear hHeld hd2 L2 hG2
                go_wp2_with fail
                go_meet
                case rel => exact ⟨g9, HOw.out⟩
            · obtain ⟨⟨z0, z1, z2, z3⟩, zf⟩ := hd j _ hi
              dsimp only at z0 z1 z2 z3
              go_simp
              refine hK.out _ _ hHeld (fun hHeld => ?_)
              clear hK K z0 z1 z2 z3 zf
              try simp only [Act.put]
              try simp only [List.setIfInBounds_toArray]
              try simp only [List.set]
              refine wpAnyH_ready (rs := [8]) (by kernel_rfl) (by simp) ?_
              refine AllReadyH.cons rfl (fun K hK => ?_) (AllReadyH.nil)
              have gAl : Below U2.heap.size U2 (U2.alloc (.cells (chE (⟨x0, ⟨xt, xk, xv, xst⟩, x5, ⟨yt, yk, yv, yst⟩⟩ : Chg)).toArray 61)) := by go_grown
              have hrs : Rs chE 10 (U2.alloc (.cells (chE (⟨x0, ⟨xt, xk, xv, xst⟩, x5, ⟨yt, yk, yv, yst⟩⟩ : Chg)).toArray 61)) (some ⟨U2.heap.size, 0, none⟩) [(⟨x0, ⟨xt, xk, xv, xst⟩, x5, ⟨yt, yk, yv, yst⟩⟩ : Chg)] := rs_one (enc := chE) U2 (⟨x0, ⟨xt, xk, xv, xst⟩, x5, ⟨yt, yk, yv, yst⟩⟩ : Chg) 61
              go_simp
              refine hK.out _ _ (hHeld.trans (gAl.mono hHeld.size)) (fun hHeld => ?_)
              clear hK K
              have hd := hd.block (gAl.block gb hG.lt)
              have hG := hG.block (gAl.block gb hG.lt)
              have L := L.below gAl
              clear gAl
              generalize U2.heap.size = cb at hrs ⊢
              have eAl : U2.alloc (.cells (chE (⟨x0, ⟨xt, xk, xv, xst⟩, x5, ⟨yt, yk, yv, yst⟩⟩ : Chg)).toArray 61) = U2.alloc (.cells #[.bool x0, .int .i64 xt, .int .i64 xk, .int .i64 xv, .string xst, .bool x5, .int .i64 yt, .int .i64 yk, .int .i64 yv, .string yst] 61) := rfl
              try rw [eAl] at hrs
              try rw [eAl] at hd
              try rw [eAl] at hG
              try rw [eAl] at L
              try rw [eAl] at hHeld
              clear eAl
              generalize U2.alloc (.cells #[.bool x0, .int .i64 xt, .int .i64 xk, .int .i64 xv, .string xst, .bool x5, .int .i64 yt, .int .i64 yk, .int .i64 yv, .string yst] 61) = U11 at hrs hd hG L hHeld ⊢
              try simp only [Act.put]
              try simp only [List.setIfInBounds_toArray]
              try simp only [List.set]
              refine wpAnyH_ready (rs := [9]) (by kernel_rfl) (by simp) ?_
              refine AllReadyH.cons rfl (fun K hK => ?_) (AllReadyH.nil)
              have t := L.one j _ _ hi hx
              rw [if_pos (by kernel_rfl)]
              refine wp_append_sl elC _ _ _ rfl W6.heap.size (TxH.U (⟨hid, hua, hun, huc, hma, hmn, hmc, hla, hln, hlc⟩ : TxH)) xu [(⟨x0, ⟨xt, xk, xv, xst⟩, x5, ⟨yt, yk, yv, yst⟩⟩ : Chg)] (some ⟨cb, 0, none⟩) 1 1 rfl rfl rfl t.u hrs (show xu.length + 1 ≤ 100000000 by omega) hHeld.size ?_
              intro v4 U12 ho4 hg4 hob4
              refine hK.out _ _ (Below.grown hHeld hg4 hHeld.size (fun q e => (ownsRow_lo t.u q e).1)) (fun hHeld => ?_)
              clear hK K
              have hgb := hg4.block gb hG.lt (fun e => hG.ne t.u (by decide) e.symm)
              have hd := hd.block hgb
              have hG := hG.block hgb
              obtain ⟨a1, d1, e4, _⟩ := SlIn.ofRow chE_len ho4
              have hun1 : (xu ++ [(⟨x0, ⟨xt, xk, xv, xst⟩, x5, ⟨yt, yk, yv, yst⟩⟩ : Chg)]).length = u1 := by rw [List.length_append]; exact hu1.out
              rw [hun1] at e4
              subst e4
              have L := L.appU hi hx (a := a1) (n := u1) (c := d1) (us := xu ++ [(⟨x0, ⟨xt, xk, xv, xst⟩, x5, ⟨yt, yk, yv, yst⟩⟩ : Chg)]) (Kp.grown hg4) (Nx.of hob4) hun1.symm ho4
              clear t hgb hg4 hob4 ho4 hun1 hrs
              try simp only [Act.put]
              try simp only [List.setIfInBounds_toArray]
              try simp only [List.set]
              refine wpAnyH_ready (rs := [15]) (by kernel_rfl) (by simp) ?_
              refine AllReadyH.cons rfl (fun K hK => ?_) (AllReadyH.nil)
              have hi1 : (hs.set j (⟨hid, a1, u1, d1, hma, hmn, hmc, hla, hln, hlc⟩ : TxH))[j]? = some (⟨hid, a1, u1, d1, hma, hmn, hmc, hla, hln, hlc⟩ : TxH) := List.getElem?_set_self hjl
              have hx1 : (xs.set j ⟨xid, xu ++ [(⟨x0, ⟨xt, xk, xv, xst⟩, x5, ⟨yt, yk, yv, yst⟩⟩ : Chg)], xm, xl⟩)[j]? = some ⟨xid, xu ++ [(⟨x0, ⟨xt, xk, xv, xst⟩, x5, ⟨yt, yk, yv, yst⟩⟩ : Chg)], xm, xl⟩ := List.getElem?_set_self hxl
              have t := L.one j _ _ hi1 hx1
              have hcon := with_any W6 hla xl hln hlc kx ky U12 t.ln.symm hlb hHeld t.l
              go_simp
              go_wp2_with (go_at_call 81; refine hcon.mono ?_; rintro e U13 ⟨a2, d2, rfl, gB, o2, kp2, nx2⟩)
              refine hK.out _ _ gB (fun hHeld => ?_)
              clear hK K hcon gB
              have hgb := kp2.block gb hG.lt (fun e => hG.ne t.l (by decide) e.symm)
              have hd := hd.block hgb
              have hG := hG.block hgb
              have L := L.appL hi1 hx1 (a := a2) (n := (withL xl ⟨kx, ky⟩).length) (c := d2) (ls := withL xl ⟨kx, ky⟩) kp2 nx2 rfl o2
              rw [List.set_set, List.set_set] at L
              clear t hgb kp2 nx2 o2 hi1 hx1
              obtain ⟨l2, hl2⟩ : ∃ l2, (withL xl ⟨kx, ky⟩).length = l2 := ⟨_, rfl⟩
              rw [hl2] at L
              simp only [hl2]
              clear hl2
              try simp only [Act.put]
              try simp only [List.setIfInBounds_toArray]
              try simp only [List.set]
              refine wpAnyH_take (i := 16) (v := ?v19) rfl (by kernel_rfl) (by kernel_rfl) (by kernel_rfl) (fun _ _ _ h => h) (Or.inl ⟨by kernel_rfl, ?h19⟩) hHeld ?_
              case h19 => intro u hSw; clear hSw; go_simp; try with_reducible rfl
              try simp only [List.getElem_toArray]
              try simp only [List.getElem_cons_succ]
              try simp only [List.getElem_cons_zero]
              try simp only [Act.put]
              try simp only [List.setIfInBounds_toArray]
              try simp only [List.set]
              refine wpAnyH_take (i := 17) (v := ?v20) rfl (by kernel_rfl) (by kernel_rfl) (by kernel_rfl) (fun _ _ _ h => h) (Or.inl ⟨by kernel_rfl, ?h20⟩) hHeld ?_
              case h20 => intro u hSw; clear hSw; go_simp; try with_reducible rfl
              try simp only [List.getElem_toArray]
              try simp only [List.getElem_cons_succ]
              try simp only [List.getElem_cons_zero]
              try simp only [Act.put]
              try simp only [List.setIfInBounds_toArray]
              try simp only [List.set]
              obtain ⟨⟨z0, z1, z2, z3⟩, zf⟩ := hd j _ hi
              dsimp only at z0 z1 z2 z3
              have f1 := zf 1 (by omega)
              have T1 : Turned gb (gb + 1) U13 (U13.setCell ⟨gb, j * 4 + 1, none⟩ (.slice a1 u1 d1)) := (Turned.refl _ _ U13).setCell (p := ⟨gb, j * 4 + 1, none⟩) (Nat.le_refl _) (Nat.lt_succ_self _) _
              have hd1 : HdC (U13.setCell ⟨gb, j * 4 + 1, none⟩ (.slice a1 u1 d1)) gb (hs.set j (⟨hid, a1, u1, d1, hma, hmn, hmc, hla, hln, hlc⟩ : TxH)) := hd.set hi ⟨by rw [cell_off (by omega)]; exact z0, by simp [go_sem, z1], by rw [cell_off (by omega)]; exact z2, by rw [cell_off (by omega)]; exact z3⟩ (fun p hp => by rw [cell_off (by omega)]) (fun p => by rw [World.frozen?_setCell])
              have L1 := L.setBk T1 hG
              have hG1 := hG.set (j * 4 + 1) (.slice a1 u1 d1)
              refine wpAnyH_ready (rs := [18]) (by kernel_rfl) (by simp) ?_
              refine AllReadyH.cons rfl (fun K hK => ?_) AllReadyH.nil
              go_simp
              refine hK.out _ _ (hHeld.trans (T1.toBelow hHeld.size hg6)) (fun hHeld => ?_)
              clear hK K
              clear T1 z0 z1 z2 z3 zf f1 hd L hG
              generalize (U13.setCell ⟨gb, j * 4 + 1, none⟩ (.slice a1 u1 d1)) = Z1 at hd1 L1 hG1 hHeld ⊢
              try simp only [Act.put]
              try simp only [List.setIfInBounds_toArray]
              try simp only [List.set]
              refine wpAnyH_take (i := 19) (v := ?v21) rfl (by kernel_rfl) (by kernel_rfl) (by kernel_rfl) (fun _ _ _ h => h) (Or.inl ⟨by kernel_rfl, ?h21⟩) hHeld ?_
              case h21 => intro u hSw; clear hSw; go_simp; try with_reducible rfl
              try simp only [List.getElem_toArray]
              try simp only [List.getElem_cons_succ]
              try simp only [List.getElem_cons_zero]
              try simp only [Act.put]
              try simp only [List.setIfInBounds_toArray]
              try simp only [List.set]
              refine wpAnyH_take (i := 20) (v := ?v22) rfl (by kernel_rfl) (by kernel_rfl) (by kernel_rfl) (fun _ _ _ h => h) (Or.inl ⟨by kernel_rfl, ?h22⟩) hHeld ?_
              case h22 => intro u hSw; clear hSw; go_simp; try with_reducible rfl
              try simp only [List.getElem_toArray]
              try simp only [List.getElem_cons_succ]
              try simp only [List.getElem_cons_zero]
              try simp only [Act.put]
              try simp only [List.setIfInBounds_toArray]
              try simp only [List.set]
              have hi1 : (hs.set j (⟨hid, a1, u1, d1, hma, hmn, hmc, hla, hln, hlc⟩ : TxH))[j]? = some (⟨hid, a1, u1, d1, hma, hmn, hmc, hla, hln, hlc⟩ : TxH) := List.getElem?_set_self hjl
              obtain ⟨⟨z0, z1, z2, z3⟩, zf⟩ := hd1 j _ hi1
              dsimp only at z0 z1 z2 z3
              have f3 := zf 3 (by omega)
              have T1 : Turned gb (gb + 1) Z1 (Z1.setCell ⟨gb, j * 4 + 3, none⟩ (.slice a2 l2 d2)) := (Turned.refl _ _ Z1).setCell (p := ⟨gb, j * 4 + 3, none⟩) (Nat.le_refl _) (Nat.lt_succ_self _) _
              have hd2 : HdC (Z1.setCell ⟨gb, j * 4 + 3, none⟩ (.slice a2 l2 d2)) gb ((hs.set j (⟨hid, a1, u1, d1, hma, hmn, hmc, hla, hln, hlc⟩ : TxH)).set j (⟨hid, a1, u1, d1, hma, hmn, hmc, a2, l2, d2⟩ : TxH)) := hd1.set hi1 ⟨by rw [cell_off (by omega)]; exact z0, by rw [cell_off (by omega)]; exact z1, by rw [cell_off (by omega)]; exact z2, by simp [go_sem, z3]⟩ (fun p hp => by rw [cell_off (by omega)]) (fun p => by rw [World.frozen?_setCell])
              rw [List.set_set] at hd2
              have L2 := L1.setBk T1 hG1
              have hG2 := hG1.set (j * 4 + 3) (.slice a2 l2 d2)
              refine wpAnyH_ready (rs := [21]) (by kernel_rfl) (by simp) ?_
              refine AllReadyH.cons rfl (fun K hK => ?_) AllReadyH.nil
              go_simp
              refine hK.out _ _ (hHeld.trans (T1.toBelow hHeld.size hg6)) (fun hHeld => ?_)
              clear hK K
              clear T1 z0 z1 z2 z3 zf f3 hd1 L1 hG1 hi1
              generalize (Z1.setCell ⟨gb, j * 4 + 3, none⟩ (.slice a2 l2 d2)) = Z2 at hd2 L2 hG2 hHeld ⊢
              try simp only [Act.put]
              try simp only [List.setIfInBounds_toArray]
              try simp only [List.set]
              refine wpAnyH_done (by kernel_rfl) ?_ _
              have HOw : Hid (OwA W6.heap.size Z2 (some ⟨gb, 0, none⟩) (xs.set j (⟨xid, xu ++ [(⟨x0, ⟨xt, xk, xv, xst⟩, x5, ⟨yt, yk, yv, yst⟩⟩ : Chg)], xm, withL xl ⟨kx, ky⟩⟩ : TxV))) := L2.own hd2 hg6 (hG2.lists L2)
              have g9 := hHeld
              clear hHeld hd2 L2 hG2
              go_wp2_with fail
              go_meet
              case rel => exact ⟨g9, HOw.out⟩
          · obtain ⟨⟨z0, z1, z2, z3⟩, zf⟩ := hd j _ hi
            dsimp only at z0 z1 z2 z3
            go_simp
            refine hK.out _ _ hHeld (fun hHeld => ?_)
            clear hK K z0 z1 z2 z3 zf
            try simp only [Act.put]
            try simp only [List.setIfInBounds_toArray]
            try simp only [List.set]
            refine wpAnyH_ready (rs := [7]) (by kernel_rfl) (by simp) ?_
            refine AllReadyH.cons rfl (fun K hK => ?_) (AllReadyH.nil)
            go_simp
            go_wp2_with (go_at_call 52; refine (ownChange_any x0 xt xk xv xst x5 yt yk yv yst _ hxb hxa).mono ?_; rintro e U15 ⟨rfl, gg⟩)
            refine hK.out _ _ (hHeld.trans (gg.mono hHeld.size)) (fun hHeld => ?_)
            clear hK K
            have hd := hd.block (gg.block gb hG.lt)
            have hG := hG.block (gg.block gb hG.lt)
            have L := L.below gg
            clear gg
            try simp only [Act.put]
            try simp only [List.setIfInBounds_toArray]
            try simp only [List.set]
            refine wpAnyH_ready (rs := [8]) (by kernel_rfl) (by simp) ?_
            refine AllReadyH.cons rfl (fun K hK => ?_) (AllReadyH.nil)
            have gAl : Below U15.heap.size U15 (U15.alloc (.cells (chE (⟨x0, ⟨xt, xk, xv, xst⟩, x5, ⟨yt, yk, yv, yst⟩⟩ : Chg)).toArray 61)) := by go_grown
            have hrs : Rs chE 10 (U15.alloc (.cells (chE (⟨x0, ⟨xt, xk, xv, xst⟩, x5, ⟨yt, yk, yv, yst⟩⟩ : Chg)).toArray 61)) (some ⟨U15.heap.size, 0, none⟩) [(⟨x0, ⟨xt, xk, xv, xst⟩, x5, ⟨yt, yk, yv, yst⟩⟩ : Chg)] := rs_one (enc := chE) U15 (⟨x0, ⟨xt, xk, xv, xst⟩, x5, ⟨yt, yk, yv, yst⟩⟩ : Chg) 61
            go_simp
            refine hK.out _ _ (hHeld.trans (gAl.mono hHeld.size)) (fun hHeld => ?_)
            clear hK K
            have hd := hd.block (gAl.block gb hG.lt)
            have hG := hG.block (gAl.block gb hG.lt)
            have L := L.below gAl
            clear gAl
            generalize U15.heap.size = cb at hrs ⊢
            have eAl : U15.alloc (.cells (chE (⟨x0, ⟨xt, xk, xv, xst⟩, x5, ⟨yt, yk, yv, yst⟩⟩ : Chg)).toArray 61) = U15.alloc (.cells #[.bool x0, .int .i64 xt, .int .i64 xk, .int .i64 xv, .string xst, .bool x5, .int .i64 yt, .int .i64 yk, .int .i64 yv, .string yst] 61) := rfl
            try rw [eAl] at hrs
            try rw [eAl] at hd
            try rw [eAl] at hG
            try rw [eAl] at L
            try rw [eAl] at hHeld
            clear eAl
            generalize U15.alloc (.cells #[.bool x0, .int .i64 xt, .int .i64 xk, .int .i64 xv, .string xst, .bool x5, .int .i64 yt, .int .i64 yk, .int .i64 yv, .string yst] 61) = U16 at hrs hd hG L hHeld ⊢
            try simp only [Act.put]
            try simp only [List.setIfInBounds_toArray]
            try simp only [List.set]
            refine wpAnyH_ready (rs := [9]) (by kernel_rfl) (by simp) ?_
            refine AllReadyH.cons rfl (fun K hK => ?_) (AllReadyH.nil)
            have t := L.one j _ _ hi hx
            rw [if_pos (by kernel_rfl)]
            refine wp_append_sl elC _ _ _ rfl W6.heap.size (TxH.U (⟨hid, hua, hun, huc, hma, hmn, hmc, hla, hln, hlc⟩ : TxH)) xu [(⟨x0, ⟨xt, xk, xv, xst⟩, x5, ⟨yt, yk, yv, yst⟩⟩ : Chg)] (some ⟨cb, 0, none⟩) 1 1 rfl rfl rfl t.u hrs (show xu.length + 1 ≤ 100000000 by omega) hHeld.size ?_
            intro v4 U17 ho4 hg4 hob4
            refine hK.out _ _ (Below.grown hHeld hg4 hHeld.size (fun q e => (ownsRow_lo t.u q e).1)) (fun hHeld => ?_)
            clear hK K
            have hgb := hg4.block gb hG.lt (fun e => hG.ne t.u (by decide) e.symm)
            have hd := hd.block hgb
            have hG := hG.block hgb
            obtain ⟨a1, d1, e4, _⟩ := SlIn.ofRow chE_len ho4
            have hun1 : (xu ++ [(⟨x0, ⟨xt, xk, xv, xst⟩, x5, ⟨yt, yk, yv, yst⟩⟩ : Chg)]).length = u1 := by rw [List.length_append]; exact hu1.out
            rw [hun1] at e4
            subst e4
            have L := L.appU hi hx (a := a1) (n := u1) (c := d1) (us := xu ++ [(⟨x0, ⟨xt, xk, xv, xst⟩, x5, ⟨yt, yk, yv, yst⟩⟩ : Chg)]) (Kp.grown hg4) (Nx.of hob4) hun1.symm ho4
            clear t hgb hg4 hob4 ho4 hun1 hrs
            try simp only [Act.put]
            try simp only [List.setIfInBounds_toArray]
            try simp only [List.set]
            refine wpAnyH_ready (rs := [15]) (by kernel_rfl) (by simp) ?_
            refine AllReadyH.cons rfl (fun K hK => ?_) (AllReadyH.nil)
            have hi1 : (hs.set j (⟨hid, a1, u1, d1, hma, hmn, hmc, hla, hln, hlc⟩ : TxH))[j]? = some (⟨hid, a1, u1, d1, hma, hmn, hmc, hla, hln, hlc⟩ : TxH) := List.getElem?_set_self hjl
            have hx1 : (xs.set j ⟨xid, xu ++ [(⟨x0, ⟨xt, xk, xv, xst⟩, x5, ⟨yt, yk, yv, yst⟩⟩ : Chg)], xm, xl⟩)[j]? = some ⟨xid, xu ++ [(⟨x0, ⟨xt, xk, xv, xst⟩, x5, ⟨yt, yk, yv, yst⟩⟩ : Chg)], xm, xl⟩ := List.getElem?_set_self hxl
            have t := L.one j _ _ hi1 hx1
            have hcon := with_any W6 hla xl hln hlc kx ky U17 t.ln.symm hlb hHeld t.l
            go_simp
            go_wp2_with (go_at_call 81; refine hcon.mono ?_; rintro e U18 ⟨a2, d2, rfl, gB, o2, kp2, nx2⟩)
            refine hK.out _ _ gB (fun hHeld => ?_)
            clear hK K hcon gB
            have hgb := kp2.block gb hG.lt (fun e => hG.ne t.l (by decide) e.symm)
            have hd := hd.block hgb
            have hG := hG.block hgb
            have L := L.appL hi1 hx1 (a := a2) (n := (withL xl ⟨kx, ky⟩).length) (c := d2) (ls := withL xl ⟨kx, ky⟩) kp2 nx2 rfl o2
            rw [List.set_set, List.set_set] at L
            clear t hgb kp2 nx2 o2 hi1 hx1
            obtain ⟨l2, hl2⟩ : ∃ l2, (withL xl ⟨kx, ky⟩).length = l2 := ⟨_, rfl⟩
            rw [hl2] at L
            simp only [hl2]
            clear hl2
            try simp only [Act.put]
            try simp only [List.setIfInBounds_toArray]
            try simp only [List.set]
            refine wpAnyH_take (i := 16) (v := ?v23) rfl (by kernel_rfl) (by kernel_rfl) (by kernel_rfl) (fun _ _ _ h => h) (Or.inl ⟨by kernel_rfl, ?h23⟩) hHeld ?_
            case h23 => intro u hSw; clear hSw; go_simp; try with_reducible rfl
            try simp only [List.getElem_toArray]
            try simp only [List.getElem_cons_succ]
            try simp only [List.getElem_cons_zero]
            try simp only [Act.put]
            try simp only [List.setIfInBounds_toArray]
            try simp only [List.set]
            refine wpAnyH_take (i := 17) (v := ?v24) rfl (by kernel_rfl) (by kernel_rfl) (by kernel_rfl) (fun _ _ _ h => h) (Or.inl ⟨by kernel_rfl, ?h24⟩) hHeld ?_
            case h24 => intro u hSw; clear hSw; go_simp; try with_reducible rfl
            try simp only [List.getElem_toArray]
            try simp only [List.getElem_cons_succ]
            try simp only [List.getElem_cons_zero]
            try simp only [Act.put]
            try simp only [List.setIfInBounds_toArray]
            try simp only [List.set]
            obtain ⟨⟨z0, z1, z2, z3⟩, zf⟩ := hd j _ hi
            dsimp only at z0 z1 z2 z3
            have f1 := zf 1 (by omega)
            have T1 : Turned gb (gb + 1) U18 (U18.setCell ⟨gb, j * 4 + 1, none⟩ (.slice a1 u1 d1)) := (Turned.refl _ _ U18).setCell (p := ⟨gb, j * 4 + 1, none⟩) (Nat.le_refl _) (Nat.lt_succ_self _) _
            have hd1 : HdC (U18.setCell ⟨gb, j * 4 + 1, none⟩ (.slice a1 u1 d1)) gb (hs.set j (⟨hid, a1, u1, d1, hma, hmn, hmc, hla, hln, hlc⟩ : TxH)) := hd.set hi ⟨by rw [cell_off (by omega)]; exact z0, by simp [go_sem, z1], by rw [cell_off (by omega)]; exact z2, by rw [cell_off (by omega)]; exact z3⟩ (fun p hp => by rw [cell_off (by omega)]) (fun p => by rw [World.frozen?_setCell])
            have L1 := L.setBk T1 hG
            have hG1 := hG.set (j * 4 + 1) (.slice a1 u1 d1)
            refine wpAnyH_ready (rs := [18]) (by kernel_rfl) (by simp) ?_
            refine AllReadyH.cons rfl (fun K hK => ?_) AllReadyH.nil
            go_simp
            refine hK.out _ _ (hHeld.trans (T1.toBelow hHeld.size hg6)) (fun hHeld => ?_)
            clear hK K
            clear T1 z0 z1 z2 z3 zf f1 hd L hG
            generalize (U18.setCell ⟨gb, j * 4 + 1, none⟩ (.slice a1 u1 d1)) = Z1 at hd1 L1 hG1 hHeld ⊢
            try simp only [Act.put]
            try simp only [List.setIfInBounds_toArray]
            try simp only [List.set]
            refine wpAnyH_take (i := 19) (v := ?v25) rfl (by kernel_rfl) (by kernel_rfl) (by kernel_rfl) (fun _ _ _ h => h) (Or.inl ⟨by kernel_rfl, ?h25⟩) hHeld ?_
            case h25 => intro u hSw; clear hSw; go_simp; try with_reducible rfl
            try simp only [List.getElem_toArray]
            try simp only [List.getElem_cons_succ]
            try simp only [List.getElem_cons_zero]
            try simp only [Act.put]
            try simp only [List.setIfInBounds_toArray]
            try simp only [List.set]
            refine wpAnyH_take (i := 20) (v := ?v26) rfl (by kernel_rfl) (by kernel_rfl) (by kernel_rfl) (fun _ _ _ h => h) (Or.inl ⟨by kernel_rfl, ?h26⟩) hHeld ?_
            case h26 => intro u hSw; clear hSw; go_simp; try with_reducible rfl
            try simp only [List.getElem_toArray]
            try simp only [List.getElem_cons_succ]
            try simp only [List.getElem_cons_zero]
            try simp only [Act.put]
            try simp only [List.setIfInBounds_toArray]
            try simp only [List.set]
            have hi1 : (hs.set j (⟨hid, a1, u1, d1, hma, hmn, hmc, hla, hln, hlc⟩ : TxH))[j]? = some (⟨hid, a1, u1, d1, hma, hmn, hmc, hla, hln, hlc⟩ : TxH) := List.getElem?_set_self hjl
            obtain ⟨⟨z0, z1, z2, z3⟩, zf⟩ := hd1 j _ hi1
            dsimp only at z0 z1 z2 z3
            have f3 := zf 3 (by omega)
            have T1 : Turned gb (gb + 1) Z1 (Z1.setCell ⟨gb, j * 4 + 3, none⟩ (.slice a2 l2 d2)) := (Turned.refl _ _ Z1).setCell (p := ⟨gb, j * 4 + 3, none⟩) (Nat.le_refl _) (Nat.lt_succ_self _) _
            have hd2 : HdC (Z1.setCell ⟨gb, j * 4 + 3, none⟩ (.slice a2 l2 d2)) gb ((hs.set j (⟨hid, a1, u1, d1, hma, hmn, hmc, hla, hln, hlc⟩ : TxH)).set j (⟨hid, a1, u1, d1, hma, hmn, hmc, a2, l2, d2⟩ : TxH)) := hd1.set hi1 ⟨by rw [cell_off (by omega)]; exact z0, by rw [cell_off (by omega)]; exact z1, by rw [cell_off (by omega)]; exact z2, by simp [go_sem, z3]⟩ (fun p hp => by rw [cell_off (by omega)]) (fun p => by rw [World.frozen?_setCell])
            rw [List.set_set] at hd2
            have L2 := L1.setBk T1 hG1
            have hG2 := hG1.set (j * 4 + 3) (.slice a2 l2 d2)
            refine wpAnyH_ready (rs := [21]) (by kernel_rfl) (by simp) ?_
            refine AllReadyH.cons rfl (fun K hK => ?_) AllReadyH.nil
            go_simp
            refine hK.out _ _ (hHeld.trans (T1.toBelow hHeld.size hg6)) (fun hHeld => ?_)
            clear hK K
            clear T1 z0 z1 z2 z3 zf f3 hd1 L1 hG1 hi1
            generalize (Z1.setCell ⟨gb, j * 4 + 3, none⟩ (.slice a2 l2 d2)) = Z2 at hd2 L2 hG2 hHeld ⊢
            try simp only [Act.put]
            try simp only [List.setIfInBounds_toArray]
            try simp only [List.set]
            refine wpAnyH_done (by kernel_rfl) ?_ _
            have HOw : Hid (OwA W6.heap.size Z2 (some ⟨gb, 0, none⟩) (xs.set j (⟨xid, xu ++ [(⟨x0, ⟨xt, xk, xv, xst⟩, x5, ⟨yt, yk, yv, yst⟩⟩ : Chg)], xm, withL xl ⟨kx, ky⟩⟩ : TxV))) := L2.own hd2 hg6 (hG2.lists L2)
            have g9 := hHeld
            clear hHeld hd2 L2 hG2
            go_wp2_with fail
            go_meet
            case rel => exact ⟨g9, HOw.out⟩
        · go_simp
          go_wp2_with (go_at_call 52; refine (ownChange_any x0 xt xk xv xst x5 yt yk yv yst _ hxb hxa).mono ?_; rintro e U19 ⟨rfl, gg⟩)
          refine hK.out _ _ (hHeld.trans (gg.mono hHeld.size)) (fun hHeld => ?_)
          clear hK K
          have hd := hd.block (gg.block gb hG.lt)
          have hG := hG.block (gg.block gb hG.lt)
          have L := L.below gg
          clear gg
          try simp only [Act.put]
          try simp only [List.setIfInBounds_toArray]
          try simp only [List.set]
          refine wpAnyH_ready (rs := [5, 8, 13]) (by kernel_rfl) (by simp) ?_
          refine AllReadyH.cons rfl (fun K hK => ?_) (AllReadyH.cons rfl (fun K hK => ?_) (AllReadyH.cons rfl (fun K hK => ?_) (AllReadyH.nil)))
          · obtain ⟨⟨z0, z1, z2, z3⟩, zf⟩ := hd j _ hi
            dsimp only at z0 z1 z2 z3
            go_simp
            refine hK.out _ _ hHeld (fun hHeld => ?_)
            clear hK K z0 z1 z2 z3 zf
            try simp only [Act.put]
            try simp only [List.setIfInBounds_toArray]
            try simp only [List.set]
            refine wpAnyH_ready (rs := [8, 13]) (by kernel_rfl) (by simp) ?_
            refine AllReadyH.cons rfl (fun K hK => ?_) (AllReadyH.cons rfl (fun K hK => ?_) (AllReadyH.nil))
            · have gAl : Below U19.heap.size U19 (U19.alloc (.cells (chE (⟨x0, ⟨xt, xk, xv, xst⟩, x5, ⟨yt, yk, yv, yst⟩⟩ : Chg)).toArray 61)) := by go_grown
              have hrs : Rs chE 10 (U19.alloc (.cells (chE (⟨x0, ⟨xt, xk, xv, xst⟩, x5, ⟨yt, yk, yv, yst⟩⟩ : Chg)).toArray 61)) (some ⟨U19.heap.size, 0, none⟩) [(⟨x0, ⟨xt, xk, xv, xst⟩, x5, ⟨yt, yk, yv, yst⟩⟩ : Chg)] := rs_one (enc := chE) U19 (⟨x0, ⟨xt, xk, xv, xst⟩, x5, ⟨yt, yk, yv, yst⟩⟩ : Chg) 61
              go_simp
              refine hK.out _ _ (hHeld.trans (gAl.mono hHeld.size)) (fun hHeld => ?_)
              clear hK K
              have hd := hd.block (gAl.block gb hG.lt)
              have hG := hG.block (gAl.block gb hG.lt)
              have L := L.below gAl
              clear gAl
              generalize U19.heap.size = cb at hrs ⊢
              have eAl : U19.alloc (.cells (chE (⟨x0, ⟨xt, xk, xv, xst⟩, x5, ⟨yt, yk, yv, yst⟩⟩ : Chg)).toArray 61) = U19.alloc (.cells #[.bool x0, .int .i64 xt, .int .i64 xk, .int .i64 xv, .string xst, .bool x5, .int .i64 yt, .int .i64 yk, .int .i64 yv, .string yst] 61) := rfl
              try rw [eAl] at hrs
              try rw [eAl] at hd
              try rw [eAl] at hG
              try rw [eAl] at L
              try rw [eAl] at hHeld
              clear eAl
              generalize U19.alloc (.cells #[.bool x0, .int .i64 xt, .int .i64 xk, .int .i64 xv, .string xst, .bool x5, .int .i64 yt, .int .i64 yk, .int .i64 yv, .string yst] 61) = U21 at hrs hd hG L hHeld ⊢
              try simp only [Act.put]
              try simp only [List.setIfInBounds_toArray]
              try simp only [List.set]
              refine wpAnyH_ready (rs := [9, 13]) (by kernel_rfl) (by simp) ?_
              refine AllReadyH.cons rfl (fun K hK => ?_) (AllReadyH.cons rfl (fun K hK => ?_) (AllReadyH.nil))
              · have t := L.one j _ _ hi hx
                rw [if_pos (by kernel_rfl)]
                refine wp_append_sl elC _ _ _ rfl W6.heap.size (TxH.U (⟨hid, hua, hun, huc, hma, hmn, hmc, hla, hln, hlc⟩ : TxH)) xu [(⟨x0, ⟨xt, xk, xv, xst⟩, x5, ⟨yt, yk, yv, yst⟩⟩ : Chg)] (some ⟨cb, 0, none⟩) 1 1 rfl rfl rfl t.u hrs (show xu.length + 1 ≤ 100000000 by omega) hHeld.size ?_
                intro v4 U22 ho4 hg4 hob4
                refine hK.out _ _ (Below.grown hHeld hg4 hHeld.size (fun q e => (ownsRow_lo t.u q e).1)) (fun hHeld => ?_)
                clear hK K
                have hgb := hg4.block gb hG.lt (fun e => hG.ne t.u (by decide) e.symm)
                have hd := hd.block hgb
                have hG := hG.block hgb
                obtain ⟨a1, d1, e4, _⟩ := SlIn.ofRow chE_len ho4
                have hun1 : (xu ++ [(⟨x0, ⟨xt, xk, xv, xst⟩, x5, ⟨yt, yk, yv, yst⟩⟩ : Chg)]).length = u1 := by rw [List.length_append]; exact hu1.out
                rw [hun1] at e4
                subst e4
                have L := L.appU hi hx (a := a1) (n := u1) (c := d1) (us := xu ++ [(⟨x0, ⟨xt, xk, xv, xst⟩, x5, ⟨yt, yk, yv, yst⟩⟩ : Chg)]) (Kp.grown hg4) (Nx.of hob4) hun1.symm ho4
                clear t hgb hg4 hob4 ho4 hun1 hrs
                try simp only [Act.put]
                try simp only [List.setIfInBounds_toArray]
                try simp only [List.set]
                refine wpAnyH_ready (rs := [13]) (by kernel_rfl) (by simp) ?_
                refine AllReadyH.cons rfl (fun K hK => ?_) (AllReadyH.nil)
                obtain ⟨⟨z0, z1, z2, z3⟩, zf⟩ := hd j _ hi
                dsimp only at z0 z1 z2 z3
                go_simp
                refine hK.out _ _ hHeld (fun hHeld => ?_)
                clear hK K z0 z1 z2 z3 zf
                try simp only [Act.put]
                try simp only [List.setIfInBounds_toArray]
                try simp only [List.set]
                refine wpAnyH_ready (rs := [15]) (by kernel_rfl) (by simp) ?_
                refine AllReadyH.cons rfl (fun K hK => ?_) (AllReadyH.nil)
                have hi1 : (hs.set j (⟨hid, a1, u1, d1, hma, hmn, hmc, hla, hln, hlc⟩ : TxH))[j]? = some (⟨hid, a1, u1, d1, hma, hmn, hmc, hla, hln, hlc⟩ : TxH) := List.getElem?_set_self hjl
                have hx1 : (xs.set j ⟨xid, xu ++ [(⟨x0, ⟨xt, xk, xv, xst⟩, x5, ⟨yt, yk, yv, yst⟩⟩ : Chg)], xm, xl⟩)[j]? = some ⟨xid, xu ++ [(⟨x0, ⟨xt, xk, xv, xst⟩, x5, ⟨yt, yk, yv, yst⟩⟩ : Chg)], xm, xl⟩ := List.getElem?_set_self hxl
                have t := L.one j _ _ hi1 hx1
                have hcon := with_any W6 hla xl hln hlc kx ky U22 t.ln.symm hlb hHeld t.l
                go_simp
                go_wp2_with (go_at_call 81; refine hcon.mono ?_; rintro e U24 ⟨a2, d2, rfl, gB, o2, kp2, nx2⟩)
                refine hK.out _ _ gB (fun hHeld => ?_)
                clear hK K hcon gB
                have hgb := kp2.block gb hG.lt (fun e => hG.ne t.l (by decide) e.symm)
                have hd := hd.block hgb
                have hG := hG.block hgb
                have L := L.appL hi1 hx1 (a := a2) (n := (withL xl ⟨kx, ky⟩).length) (c := d2) (ls := withL xl ⟨kx, ky⟩) kp2 nx2 rfl o2
                rw [List.set_set, List.set_set] at L
                clear t hgb kp2 nx2 o2 hi1 hx1
                obtain ⟨l2, hl2⟩ : ∃ l2, (withL xl ⟨kx, ky⟩).length = l2 := ⟨_, rfl⟩
                rw [hl2] at L
                simp only [hl2]
                clear hl2
                try simp only [Act.put]
                try simp only [List.setIfInBounds_toArray]
                try simp only [List.set]
                refine wpAnyH_take (i := 16) (v := ?v27) rfl (by kernel_rfl) (by kernel_rfl) (by kernel_rfl) (fun _ _ _ h => h) (Or.inl ⟨by kernel_rfl, ?h27⟩) hHeld ?_
                case h27 => intro u hSw; clear hSw; go_simp; try with_reducible rfl
                try simp only [List.getElem_toArray]
                try simp only [List.getElem_cons_succ]
                try simp only [List.getElem_cons_zero]
                try simp only [Act.put]
                try simp only [List.setIfInBounds_toArray]
                try simp only [List.set]
                refine wpAnyH_take (i := 17) (v := ?v28) rfl (by kernel_rfl) (by kernel_rfl) (by kernel_rfl) (fun _ _ _ h => h) (Or.inl ⟨by kernel_rfl, ?h28⟩) hHeld ?_
                case h28 => intro u hSw; clear hSw; go_simp; try with_reducible rfl
                try simp only [List.getElem_toArray]
                try simp only [List.getElem_cons_succ]
                try simp only [List.getElem_cons_zero]
                try simp only [Act.put]
                try simp only [List.setIfInBounds_toArray]
                try simp only [List.set]
                obtain ⟨⟨z0, z1, z2, z3⟩, zf⟩ := hd j _ hi
                dsimp only at z0 z1 z2 z3
                have f1 := zf 1 (by omega)
                have T1 : Turned gb (gb + 1) U24 (U24.setCell ⟨gb, j * 4 + 1, none⟩ (.slice a1 u1 d1)) := (Turned.refl _ _ U24).setCell (p := ⟨gb, j * 4 + 1, none⟩) (Nat.le_refl _) (Nat.lt_succ_self _) _
                have hd1 : HdC (U24.setCell ⟨gb, j * 4 + 1, none⟩ (.slice a1 u1 d1)) gb (hs.set j (⟨hid, a1, u1, d1, hma, hmn, hmc, hla, hln, hlc⟩ : TxH)) := hd.set hi ⟨by rw [cell_off (by omega)]; exact z0, by simp [go_sem, z1], by rw [cell_off (by omega)]; exact z2, by rw [cell_off (by omega)]; exact z3⟩ (fun p hp => by rw [cell_off (by omega)]) (fun p => by rw [World.frozen?_setCell])
                have L1 := L.setBk T1 hG
                have hG1 := hG.set (j * 4 + 1) (.slice a1 u1 d1)
                refine wpAnyH_ready (rs := [18]) (by kernel_rfl) (by simp) ?_
                refine AllReadyH.cons rfl (fun K hK => ?_) AllReadyH.nil
                go_simp
                refine hK.out _ _ (hHeld.trans (T1.toBelow hHeld.size hg6)) (fun hHeld => ?_)
                clear hK K
                clear T1 z0 z1 z2 z3 zf f1 hd L hG
                generalize (U24.setCell ⟨gb, j * 4 + 1, none⟩ (.slice a1 u1 d1)) = Z1 at hd1 L1 hG1 hHeld ⊢
                try simp only [Act.put]
                try simp only [List.setIfInBounds_toArray]
                try simp only [List.set]
                refine wpAnyH_take (i := 19) (v := ?v29) rfl (by kernel_rfl) (by kernel_rfl) (by kernel_rfl) (fun _ _ _ h => h) (Or.inl ⟨by kernel_rfl, ?h29⟩) hHeld ?_
                case h29 => intro u hSw; clear hSw; go_simp; try with_reducible rfl
                try simp only [List.getElem_toArray]
                try simp only [List.getElem_cons_succ]
                try simp only [List.getElem_cons_zero]
                try simp only [Act.put]
                try simp only [List.setIfInBounds_toArray]
                try simp only [List.set]
                refine wpAnyH_take (i := 20) (v := ?v30) rfl (by kernel_rfl) (by kernel_rfl) (by kernel_rfl) (fun _ _ _ h => h) (Or.inl ⟨by kernel_rfl, ?h30⟩) hHeld ?_
                case h30 => intro u hSw; clear hSw; go_simp; try with_reducible rfl
                try simp only [List.getElem_toArray]
                try simp only [List.getElem_cons_succ]
                try simp only [List.getElem_cons_zero]
                try simp only [Act.put]
                try simp only [List.setIfInBounds_toArray]
                try simp only [List.set]
                have hi1 : (hs.set j (⟨hid, a1, u1, d1, hma, hmn, hmc, hla, hln, hlc⟩ : TxH))[j]? = some (⟨hid, a1, u1, d1, hma, hmn, hmc, hla, hln, hlc⟩ : TxH) := List.getElem?_set_self hjl
                obtain ⟨⟨z0, z1, z2, z3⟩, zf⟩ := hd1 j _ hi1
                dsimp only at z0 z1 z2 z3
                have f3 := zf 3 (by omega)
                have T1 : Turned gb (gb + 1) Z1 (Z1.setCell ⟨gb, j * 4 + 3, none⟩ (.slice a2 l2 d2)) := (Turned.refl _ _ Z1).setCell (p := ⟨gb, j * 4 + 3, none⟩) (Nat.le_refl _) (Nat.lt_succ_self _) _
                have hd2 : HdC (Z1.setCell ⟨gb, j * 4 + 3, none⟩ (.slice a2 l2 d2)) gb ((hs.set j (⟨hid, a1, u1, d1, hma, hmn, hmc, hla, hln, hlc⟩ : TxH)).set j (⟨hid, a1, u1, d1, hma, hmn, hmc, a2, l2, d2⟩ : TxH)) := hd1.set hi1 ⟨by rw [cell_off (by omega)]; exact z0, by rw [cell_off (by omega)]; exact z1, by rw [cell_off (by omega)]; exact z2, by simp [go_sem, z3]⟩ (fun p hp => by rw [cell_off (by omega)]) (fun p => by rw [World.frozen?_setCell])
                rw [List.set_set] at hd2
                have L2 := L1.setBk T1 hG1
                have hG2 := hG1.set (j * 4 + 3) (.slice a2 l2 d2)
                refine wpAnyH_ready (rs := [21]) (by kernel_rfl) (by simp) ?_
                refine AllReadyH.cons rfl (fun K hK => ?_) AllReadyH.nil
                go_simp
                refine hK.out _ _ (hHeld.trans (T1.toBelow hHeld.size hg6)) (fun hHeld => ?_)
                clear hK K
                clear T1 z0 z1 z2 z3 zf f3 hd1 L1 hG1 hi1
                generalize (Z1.setCell ⟨gb, j * 4 + 3, none⟩ (.slice a2 l2 d2)) = Z2 at hd2 L2 hG2 hHeld ⊢
                try simp only [Act.put]
                try simp only [List.setIfInBounds_toArray]
                try simp only [List.set]
                refine wpAnyH_done (by kernel_rfl) ?_ _
                have HOw : Hid (OwA W6.heap.size Z2 (some ⟨gb, 0, none⟩) (xs.set j (⟨xid, xu ++ [(⟨x0, ⟨xt, xk, xv, xst⟩, x5, ⟨yt, yk, yv, yst⟩⟩ : Chg)], xm, withL xl ⟨kx, ky⟩⟩ : TxV))) := L2.own hd2 hg6 (hG2.lists L2)
                have g9 := hHeld
                clear hHeld hd2 L2 hG2
                go_wp2_with fail
                go_meet
                case rel => exact ⟨g9, HOw.out⟩
              · obtain ⟨⟨z0, z1, z2, z3⟩, zf⟩ := hd j _ hi
                dsimp only at z0 z1 z2 z3
                go_simp
                refine hK.out _ _ hHeld (fun hHeld => ?_)
                clear hK K z0 z1 z2 z3 zf
                try simp only [Act.put]
                try simp only [List.setIfInBounds_toArray]
                try simp only [List.set]
                refine wpAnyH_ready (rs := [9]) (by kernel_rfl) (by simp) ?_
                refine AllReadyH.cons rfl (fun K hK => ?_) (AllReadyH.nil)
                have t := L.one j _ _ hi hx
                rw [if_pos (by kernel_rfl)]
                refine wp_append_sl elC _ _ _ rfl W6.heap.size (TxH.U (⟨hid, hua, hun, huc, hma, hmn, hmc, hla, hln, hlc⟩ : TxH)) xu [(⟨x0, ⟨xt, xk, xv, xst⟩, x5, ⟨yt, yk, yv, yst⟩⟩ : Chg)] (some ⟨cb, 0, none⟩) 1 1 rfl rfl rfl t.u hrs (show xu.length + 1 ≤ 100000000 by omega) hHeld.size ?_
                intro v4 U26 ho4 hg4 hob4
                refine hK.out _ _ (Below.grown hHeld hg4 hHeld.size (fun q e => (ownsRow_lo t.u q e).1)) (fun hHeld => ?_)
                clear hK K
                have hgb := hg4.block gb hG.lt (fun e => hG.ne t.u (by decide) e.symm)
                have hd := hd.block hgb
                have hG := hG.block hgb
                obtain ⟨a1, d1, e4, _⟩ := SlIn.ofRow chE_len ho4
                have hun1 : (xu ++ [(⟨x0, ⟨xt, xk, xv, xst⟩, x5, ⟨yt, yk, yv, yst⟩⟩ : Chg)]).length = u1 := by rw [List.length_append]; exact hu1.out
                rw [hun1] at e4
                subst e4
                have L := L.appU hi hx (a := a1) (n := u1) (c := d1) (us := xu ++ [(⟨x0, ⟨xt, xk, xv, xst⟩, x5, ⟨yt, yk, yv, yst⟩⟩ : Chg)]) (Kp.grown hg4) (Nx.of hob4) hun1.symm ho4
                clear t hgb hg4 hob4 ho4 hun1 hrs
                try simp only [Act.put]
                try simp only [List.setIfInBounds_toArray]
                try simp only [List.set]
                refine wpAnyH_ready (rs := [15]) (by kernel_rfl) (by simp) ?_
                refine AllReadyH.cons rfl (fun K hK => ?_) (AllReadyH.nil)
                have hi1 : (hs.set j (⟨hid, a1, u1, d1, hma, hmn, hmc, hla, hln, hlc⟩ : TxH))[j]? = some (⟨hid, a1, u1, d1, hma, hmn, hmc, hla, hln, hlc⟩ : TxH) := List.getElem?_set_self hjl
                have hx1 : (xs.set j ⟨xid, xu ++ [(⟨x0, ⟨xt, xk, xv, xst⟩, x5, ⟨yt, yk, yv, yst⟩⟩ : Chg)], xm, xl⟩)[j]? = some ⟨xid, xu ++ [(⟨x0, ⟨xt, xk, xv, xst⟩, x5, ⟨yt, yk, yv, yst⟩⟩ : Chg)], xm, xl⟩ := List.getElem?_set_self hxl
                have t := L.one j _ _ hi1 hx1
                have hcon := with_any W6 hla xl hln hlc kx ky U26 t.ln.symm hlb hHeld t.l
                go_simp
                go_wp2_with (go_at_call 81; refine hcon.mono ?_; rintro e U27 ⟨a2, d2, rfl, gB, o2, kp2, nx2⟩)
                refine hK.out _ _ gB (fun hHeld => ?_)
                clear hK K hcon gB
                have hgb := kp2.block gb hG.lt (fun e => hG.ne t.l (by decide) e.symm)
                have hd := hd.block hgb
                have hG := hG.block hgb
                have L := L.appL hi1 hx1 (a := a2) (n := (withL xl ⟨kx, ky⟩).length) (c := d2) (ls := withL xl ⟨kx, ky⟩) kp2 nx2 rfl o2
                rw [List.set_set, List.set_set] at L
                clear t hgb kp2 nx2 o2 hi1 hx1
                obtain ⟨l2, hl2⟩ : ∃ l2, (withL xl ⟨kx, ky⟩).length = l2 := ⟨_, rfl⟩
                rw [hl2] at L
                simp only [hl2]
                clear hl2
                try simp only [Act.put]
                try simp only [List.setIfInBounds_toArray]
                try simp only [List.set]
                refine wpAnyH_take (i := 16) (v := ?v31) rfl (by kernel_rfl) (by kernel_rfl) (by kernel_rfl) (fun _ _ _ h => h) (Or.inl ⟨by kernel_rfl, ?h31⟩) hHeld ?_
                case h31 => intro u hSw; clear hSw; go_simp; try with_reducible rfl
                try simp only [List.getElem_toArray]
                try simp only [List.getElem_cons_succ]
                try simp only [List.getElem_cons_zero]
                try simp only [Act.put]
                try simp only [List.setIfInBounds_toArray]
                try simp only [List.set]
                refine wpAnyH_take (i := 17) (v := ?v32) rfl (by kernel_rfl) (by kernel_rfl) (by kernel_rfl) (fun _ _ _ h => h) (Or.inl ⟨by kernel_rfl, ?h32⟩) hHeld ?_
                case h32 => intro u hSw; clear hSw; go_simp; try with_reducible rfl
                try simp only [List.getElem_toArray]
                try simp only [List.getElem_cons_succ]
                try simp only [List.getElem_cons_zero]
                try simp only [Act.put]
                try simp only [List.setIfInBounds_toArray]
                try simp only [List.set]
                obtain ⟨⟨z0, z1, z2, z3⟩, zf⟩ := hd j _ hi
                dsimp only at z0 z1 z2 z3
                have f1 := zf 1 (by omega)
                have T1 : Turned gb (gb + 1) U27 (U27.setCell ⟨gb, j * 4 + 1, none⟩ (.slice a1 u1 d1)) := (Turned.refl _ _ U27).setCell (p := ⟨gb, j * 4 + 1, none⟩) (Nat.le_refl _) (Nat.lt_succ_self _) _
                have hd1 : HdC (U27.setCell ⟨gb, j * 4 + 1, none⟩ (.slice a1 u1 d1)) gb (hs.set j (⟨hid, a1, u1, d1, hma, hmn, hmc, hla, hln, hlc⟩ : TxH)) := hd.set hi ⟨by rw [cell_off (by omega)]; exact z0, by simp [go_sem, z1], by rw [cell_off (by omega)]; exact z2, by rw [cell_off (by omega)]; exact z3⟩ (fun p hp => by rw [cell_off (by omega)]) (fun p => by rw [World.frozen?_setCell])
                have L1 := L.setBk T1 hG
                have hG1 := hG.set (j * 4 + 1) (.slice a1 u1 d1)
                refine wpAnyH_ready (rs := [18]) (by kernel_rfl) (by simp) ?_
                refine AllReadyH.cons rfl (fun K hK => ?_) AllReadyH.nil
                go_simp
                refine hK.out _ _ (hHeld.trans (T1.toBelow hHeld.size hg6)) (fun hHeld => ?_)
                clear hK K
                clear T1 z0 z1 z2 z3 zf f1 hd L hG
                generalize (U27.setCell ⟨gb, j * 4 + 1, none⟩ (.slice a1 u1 d1)) = Z1 at hd1 L1 hG1 hHeld ⊢
                try simp only [Act.put]
                try simp only [List.setIfInBounds_toArray]
                try simp only [List.set]
                refine wpAnyH_take (i := 19) (v := ?v33) rfl (by kernel_rfl) (by kernel_rfl) (by kernel_rfl) (fun _ _ _ h => h) (Or.inl ⟨by kernel_rfl, ?h33⟩) hHeld ?_
                case h33 => intro u hSw; clear hSw; go_simp; try with_reducible rfl
                try simp only [List.getElem_toArray]
                try simp only [List.getElem_cons_succ]
                try simp only [List.getElem_cons_zero]
                try simp only [Act.put]
                try simp only [List.setIfInBounds_toArray]
                try simp only [List.set]
                refine wpAnyH_take (i := 20) (v := ?v34) rfl (by kernel_rfl) (by kernel_rfl) (by kernel_rfl) (fun _ _ _ h => h) (Or.inl ⟨by kernel_rfl, ?h34⟩) hHeld ?_
                case h34 => intro u hSw; clear hSw; go_simp; try with_reducible rfl
                try simp only [List.getElem_toArray]
                try simp only [List.getElem_cons_succ]
                try simp only [List.getElem_cons_zero]
                try simp only [Act.put]
                try simp only [List.setIfInBounds_toArray]
                try simp only [List.set]
                have hi1 : (hs.set j (⟨hid, a1, u1, d1, hma, hmn, hmc, hla, hln, hlc⟩ : TxH))[j]? = some (⟨hid, a1, u1, d1, hma, hmn, hmc, hla, hln, hlc⟩ : TxH) := List.getElem?_set_self hjl
                obtain ⟨⟨z0, z1, z2, z3⟩, zf⟩ := hd1 j _ hi1
                dsimp only at z0 z1 z2 z3
                have f3 := zf 3 (by omega)
                have T1 : Turned gb (gb + 1) Z1 (Z1.setCell ⟨gb, j * 4 + 3, none⟩ (.slice a2 l2 d2)) := (Turned.refl _ _ Z1).setCell (p := ⟨gb, j * 4 + 3, none⟩) (Nat.le_refl _) (Nat.lt_succ_self _) _
                have hd2 : HdC (Z1.setCell ⟨gb, j * 4 + 3, none⟩ (.slice a2 l2 d2)) gb ((hs.set j (⟨hid, a1, u1, d1, hma, hmn, hmc, hla, hln, hlc⟩ : TxH)).set j (⟨hid, a1, u1, d1, hma, hmn, hmc, a2, l2, d2⟩ : TxH)) := hd1.set hi1 ⟨by rw [cell_off (by omega)]; exact z0, by rw [cell_off (by omega)]; exact z1, by rw [cell_off (by omega)]; exact z2, by simp [go_sem, z3]⟩ (fun p hp => by rw [cell_off (by omega)]) (fun p => by rw [World.frozen?_setCell])
                rw [List.set_set] at hd2
                have L2 := L1.setBk T1 hG1
                have hG2 := hG1.set (j * 4 + 3) (.slice a2 l2 d2)
                refine wpAnyH_ready (rs := [21]) (by kernel_rfl) (by simp) ?_
                refine AllReadyH.cons rfl (fun K hK => ?_) AllReadyH.nil
                go_simp
                refine hK.out _ _ (hHeld.trans (T1.toBelow hHeld.size hg6)) (fun hHeld => ?_)
                clear hK K
                clear T1 z0 z1 z2 z3 zf f3 hd1 L1 hG1 hi1
                generalize (Z1.setCell ⟨gb, j * 4 + 3, none⟩ (.slice a2 l2 d2)) = Z2 at hd2 L2 hG2 hHeld ⊢
                try simp only [Act.put]
                try simp only [List.setIfInBounds_toArray]
                try simp only [List.set]
                refine wpAnyH_done (by kernel_rfl) ?_ _
                have HOw : Hid (OwA W6.heap.size Z2 (some ⟨gb, 0, none⟩) (xs.set j (⟨xid, xu ++ [(⟨x0, ⟨xt, xk, xv, xst⟩, x5, ⟨yt, yk, yv, yst⟩⟩ : Chg)], xm, withL xl ⟨kx, ky⟩⟩ : TxV))) := L2.own hd2 hg6 (hG2.lists L2)
                have g9 := hHeld
                clear hHeld hd2 L2 hG2
                go_wp2_with fail
                go_meet
                case rel => exact ⟨g9, HOw.out⟩
            · obtain ⟨⟨z0, z1, z2, z3⟩, zf⟩ := hd j _ hi
              dsimp only at z0 z1 z2 z3
              go_simp
              refine hK.out _ _ hHeld (fun hHeld => ?_)
              clear hK K z0 z1 z2 z3 zf
              try simp only [Act.put]
              try simp only [List.setIfInBounds_toArray]
              try simp only [List.set]
              refine wpAnyH_ready (rs := [8]) (by kernel_rfl) (by simp) ?_
              refine AllReadyH.cons rfl (fun K hK => ?_) (AllReadyH.nil)
              have gAl : Below U19.heap.size U19 (U19.alloc (.cells (chE (⟨x0, ⟨xt, xk, xv, xst⟩, x5, ⟨yt, yk, yv, yst⟩⟩ : Chg)).toArray 61)) := by go_grown
              have hrs : Rs chE 10 (U19.alloc (.cells (chE (⟨x0, ⟨xt, xk, xv, xst⟩, x5, ⟨yt, yk, yv, yst⟩⟩ : Chg)).toArray 61)) (some ⟨U19.heap.size, 0, none⟩) [(⟨x0, ⟨xt, xk, xv, xst⟩, x5, ⟨yt, yk, yv, yst⟩⟩ : Chg)] := rs_one (enc := chE) U19 (⟨x0, ⟨xt, xk, xv, xst⟩, x5, ⟨yt, yk, yv, yst⟩⟩ : Chg) 61
              go_simp
              refine hK.out _ _ (hHeld.trans (gAl.mono hHeld.size)) (fun hHeld => ?_)
              clear hK K
              have hd := hd.block (gAl.block gb hG.lt)
              have hG := hG.block (gAl.block gb hG.lt)
              have L := L.below gAl
              clear gAl
              generalize U19.heap.size = cb at hrs ⊢
              have eAl : U19.alloc (.cells (chE (⟨x0, ⟨xt, xk, xv, xst⟩, x5, ⟨yt, yk, yv, yst⟩⟩ : Chg)).toArray 61) = U19.alloc (.cells #[.bool x0, .int .i64 xt, .int .i64 xk, .int .i64 xv, .string xst, .bool x5, .int .i64 yt, .int .i64 yk, .int .i64 yv, .string yst] 61) := rfl
              try rw [eAl] at hrs
              try rw [eAl] at hd
              try rw [eAl] at hG
              try rw [eAl] at L
              try rw [eAl] at hHeld
              clear eAl
              generalize U19.alloc (.cells #[.bool x0, .int .i64 xt, .int .i64 xk, .int .i64 xv, .string xst, .bool x5, .int .i64 yt, .int .i64 yk, .int .i64 yv, .string yst] 61) = U29 at hrs hd hG L hHeld ⊢
              try simp only [Act.put]
              try simp only [List.setIfInBounds_toArray]
              try simp only [List.set]
              refine wpAnyH_ready (rs := [9]) (by kernel_rfl) (by simp) ?_
              refine AllReadyH.cons rfl (fun K hK => ?_) (AllReadyH.nil)
              have t := L.one j _ _ hi hx
              rw [if_pos (by kernel_rfl)]
              refine wp_append_sl elC _ _ _ rfl W6.heap.size (TxH.U (⟨hid, hua, hun, huc, hma, hmn, hmc, hla, hln, hlc⟩ : TxH)) xu [(⟨x0, ⟨xt, xk, xv, xst⟩, x5, ⟨yt, yk, yv, yst⟩⟩ : Chg)] (some ⟨cb, 0, none⟩) 1 1 rfl rfl rfl t.u hrs (show xu.length + 1 ≤ 100000000 by omega) hHeld.size ?_
              intro v4 U30 ho4 hg4 hob4
              refine hK.out _ _ (Below.grown hHeld hg4 hHeld.size (fun q e => (ownsRow_lo t.u q e).1)) (fun hHeld => ?_)
              clear hK K
              have hgb := hg4.block gb hG.lt (fun e => hG.ne t.u (by decide) e.symm)
              have hd := hd.block hgb
              have hG := hG.block hgb
              obtain ⟨a1, d1, e4, _⟩ := SlIn.ofRow chE_len ho4
              have hun1 : (xu ++ [(⟨x0, ⟨xt, xk, xv, xst⟩, x5, ⟨yt, yk, yv, yst⟩⟩ : Chg)]).length = u1 := by rw [List.length_append]; exact hu1.out
              rw [hun1] at e4
              subst e4
              have L := L.appU hi hx (a := a1) (n := u1) (c := d1) (us := xu ++ [(⟨x0, ⟨xt, xk, xv, xst⟩, x5, ⟨yt, yk, yv, yst⟩⟩ : Chg)]) (Kp.grown hg4) (Nx.of hob4) hun1.symm ho4
              clear t hgb hg4 hob4 ho4 hun1 hrs
              try simp only [Act.put]
              try simp only [List.setIfInBounds_toArray]
              try simp only [List.set]
              refine wpAnyH_ready (rs := [15]) (by kernel_rfl) (by simp) ?_
              refine AllReadyH.cons rfl (fun K hK => ?_) (AllReadyH.nil)
              have hi1 : (hs.set j (⟨hid, a1, u1, d1, hma, hmn, hmc, hla, hln, hlc⟩ : TxH))[j]? = some (⟨hid, a1, u1, d1, hma, hmn, hmc, hla, hln, hlc⟩ : TxH) := List.getElem?_set_self hjl
              have hx1 : (xs.set j ⟨xid, xu ++ [(⟨x0, ⟨xt, xk, xv, xst⟩, x5, ⟨yt, yk, yv, yst⟩⟩ : Chg)], xm, xl⟩)[j]? = some ⟨xid, xu ++ [(⟨x0, ⟨xt, xk, xv, xst⟩, x5, ⟨yt, yk, yv, yst⟩⟩ : Chg)], xm, xl⟩ := List.getElem?_set_self hxl
              have t := L.one j _ _ hi1 hx1
              have hcon := with_any W6 hla xl hln hlc kx ky U30 t.ln.symm hlb hHeld t.l
              go_simp
              go_wp2_with (go_at_call 81; refine hcon.mono ?_; rintro e U31 ⟨a2, d2, rfl, gB, o2, kp2, nx2⟩)
              refine hK.out _ _ gB (fun hHeld => ?_)
              clear hK K hcon gB
              have hgb := kp2.block gb hG.lt (fun e => hG.ne t.l (by decide) e.symm)
              have hd := hd.block hgb
              have hG := hG.block hgb
              have L := L.appL hi1 hx1 (a := a2) (n := (withL xl ⟨kx, ky⟩).length) (c := d2) (ls := withL xl ⟨kx, ky⟩) kp2 nx2 rfl o2
              rw [List.set_set, List.set_set] at L
              clear t hgb kp2 nx2 o2 hi1 hx1
              obtain ⟨l2, hl2⟩ : ∃ l2, (withL xl ⟨kx, ky⟩).length = l2 := ⟨_, rfl⟩
              rw [hl2] at L
              simp only [hl2]
              clear hl2
              try simp only [Act.put]
              try simp only [List.setIfInBounds_toArray]
              try simp only [List.set]
              refine wpAnyH_take (i := 16) (v := ?v35) rfl (by kernel_rfl) (by kernel_rfl) (by kernel_rfl) (fun _ _ _ h => h) (Or.inl ⟨by kernel_rfl, ?h35⟩) hHeld ?_
              case h35 => intro u hSw; clear hSw; go_simp; try with_reducible rfl
              try simp only [List.getElem_toArray]
              try simp only [List.getElem_cons_succ]
              try simp only [List.getElem_cons_zero]
              try simp only [Act.put]
              try simp only [List.setIfInBounds_toArray]
              try simp only [List.set]
              refine wpAnyH_take (i := 17) (v := ?v36) rfl (by kernel_rfl) (by kernel_rfl) (by kernel_rfl) (fun _ _ _ h => h) (Or.inl ⟨by kernel_rfl, ?h36⟩) hHeld ?_
              case h36 => intro u hSw; clear hSw; go_simp; try with_reducible rfl
              try simp only [List.getElem_toArray]
              try simp only [List.getElem_cons_succ]
              try simp only [List.getElem_cons_zero]
              try simp only [Act.put]
              try simp only [List.setIfInBounds_toArray]
              try simp only [List.set]
              obtain ⟨⟨z0, z1, z2, z3⟩, zf⟩ := hd j _ hi
              dsimp only at z0 z1 z2 z3
              have f1 := zf 1 (by omega)
              have T1 : Turned gb (gb + 1) U31 (U31.setCell ⟨gb, j * 4 + 1, none⟩ (.slice a1 u1 d1)) := (Turned.refl _ _ U31).setCell (p := ⟨gb, j * 4 + 1, none⟩) (Nat.le_refl _) (Nat.lt_succ_self _) _
              have hd1 : HdC (U31.setCell ⟨gb, j * 4 + 1, none⟩ (.slice a1 u1 d1)) gb (hs.set j (⟨hid, a1, u1, d1, hma, hmn, hmc, hla, hln, hlc⟩ : TxH)) := hd.set hi ⟨by rw [cell_off (by omega)]; exact z0, by simp [go_sem, z1], by rw [cell_off (by omega)]; exact z2, by rw [cell_off (by omega)]; exact z3⟩ (fun p hp => by rw [cell_off (by omega)]) (fun p => by rw [World.frozen?_setCell])
              have L1 := L.setBk T1 hG
              have hG1 := hG.set (j * 4 + 1) (.slice a1 u1 d1)
              refine wpAnyH_ready (rs := [18]) (by kernel_rfl) (by simp) ?_
              refine AllReadyH.cons rfl (fun K hK => ?_) AllReadyH.nil
              go_simp
              refine hK.out _ _ (hHeld.trans (T1.toBelow hHeld.size hg6)) (fun hHeld => ?_)
              clear hK K
              clear T1 z0 z1 z2 z3 zf f1 hd L hG
              generalize (U31.setCell ⟨gb, j * 4 + 1, none⟩ (.slice a1 u1 d1)) = Z1 at hd1 L1 hG1 hHeld ⊢
              try simp only [Act.put]
              try simp only [List.setIfInBounds_toArray]
              try simp only [List.set]
              refine wpAnyH_take (i := 19) (v := ?v37) rfl (by kernel_rfl) (by kernel_rfl) (by kernel_rfl) (fun _ _ _ h => h) (Or.inl ⟨by kernel_rfl, ?h37⟩) hHeld ?_
              case h37 => intro u hSw; clear hSw; go_simp; try with_reducible rfl
              try simp only [List.getElem_toArray]
              try simp only [List.getElem_cons_succ]
              try simp only [List.getElem_cons_zero]
              try simp only [Act.put]
              try simp only [List.setIfInBounds_toArray]
              try simp only [List.set]
              refine wpAnyH_take (i := 20) (v := ?v38) rfl (by kernel_rfl) (by kernel_rfl) (by kernel_rfl) (fun _ _ _ h => h) (Or.inl ⟨by kernel_rfl, ?h38⟩) hHeld ?_
              case h38 => intro u hSw; clear hSw; go_simp; try with_reducible rfl
              try simp only [List.getElem_toArray]
              try simp only [List.getElem_cons_succ]
              try simp only [List.getElem_cons_zero]
              try simp only [Act.put]
              try simp only [List.setIfInBounds_toArray]
              try simp only [List.set]
              have hi1 : (hs.set j (⟨hid, a1, u1, d1, hma, hmn, hmc, hla, hln, hlc⟩ : TxH))[j]? = some (⟨hid, a1, u1, d1, hma, hmn, hmc, hla, hln, hlc⟩ : TxH) := List.getElem?_set_self hjl
              obtain ⟨⟨z0, z1, z2, z3⟩, zf⟩ := hd1 j _ hi1
              dsimp only at z0 z1 z2 z3
              have f3 := zf 3 (by omega)
              have T1 : Turned gb (gb + 1) Z1 (Z1.setCell ⟨gb, j * 4 + 3, none⟩ (.slice a2 l2 d2)) := (Turned.refl _ _ Z1).setCell (p := ⟨gb, j * 4 + 3, none⟩) (Nat.le_refl _) (Nat.lt_succ_self _) _
              have hd2 : HdC (Z1.setCell ⟨gb, j * 4 + 3, none⟩ (.slice a2 l2 d2)) gb ((hs.set j (⟨hid, a1, u1, d1, hma, hmn, hmc, hla, hln, hlc⟩ : TxH)).set j (⟨hid, a1, u1, d1, hma, hmn, hmc, a2, l2, d2⟩ : TxH)) := hd1.set hi1 ⟨by rw [cell_off (by omega)]; exact z0, by rw [cell_off (by omega)]; exact z1, by rw [cell_off (by omega)]; exact z2, by simp [go_sem, z3]⟩ (fun p hp => by rw [cell_off (by omega)]) (fun p => by rw [World.frozen?_setCell])
              rw [List.set_set] at hd2
              have L2 := L1.setBk T1 hG1
              have hG2 := hG1.set (j * 4 + 3) (.slice a2 l2 d2)
              refine wpAnyH_ready (rs := [21]) (by kernel_rfl) (by simp) ?_
              refine AllReadyH.cons rfl (fun K hK => ?_) AllReadyH.nil
              go_simp
              refine hK.out _ _ (hHeld.trans (T1.toBelow hHeld.size hg6)) (fun hHeld => ?_)
              clear hK K
              clear T1 z0 z1 z2 z3 zf f3 hd1 L1 hG1 hi1
              generalize (Z1.setCell ⟨gb, j * 4 + 3, none⟩ (.slice a2 l2 d2)) = Z2 at hd2 L2 hG2 hHeld ⊢
              try simp only [Act.put]
              try simp only [List.setIfInBounds_toArray]
              try simp only [List.set]
              refine wpAnyH_done (by kernel_rfl) ?_ _
              have HOw : Hid (OwA W6.heap.size Z2 (some ⟨gb, 0, none⟩) (xs.set j (⟨xid, xu ++ [(⟨x0, ⟨xt, xk, xv, xst⟩, x5, ⟨yt, yk, yv, yst⟩⟩ : Chg)], xm, withL xl ⟨kx, ky⟩⟩ : TxV))) := L2.own hd2 hg6 (hG2.lists L2)
              have g9 := hHeld
              clear hHeld hd2 L2 hG2
              go_wp2_with fail
              go_meet
              case rel => exact ⟨g9, HOw.out⟩
          · have gAl : Below U19.heap.size U19 (U19.alloc (.cells (chE (⟨x0, ⟨xt, xk, xv, xst⟩, x5, ⟨yt, yk, yv, yst⟩⟩ : Chg)).toArray 61)) := by go_grown
            have hrs : Rs chE 10 (U19.alloc (.cells (chE (⟨x0, ⟨xt, xk, xv, xst⟩, x5, ⟨yt, yk, yv, yst⟩⟩ : Chg)).toArray 61)) (some ⟨U19.heap.size, 0, none⟩) [(⟨x0, ⟨xt, xk, xv, xst⟩, x5, ⟨yt, yk, yv, yst⟩⟩ : Chg)] := rs_one (enc := chE) U19 (⟨x0, ⟨xt, xk, xv, xst⟩, x5, ⟨yt, yk, yv, yst⟩⟩ : Chg) 61
            go_simp
            refine hK.out _ _ (hHeld.trans (gAl.mono hHeld.size)) (fun hHeld => ?_)
            clear hK K
            have hd := hd.block (gAl.block gb hG.lt)
            have hG := hG.block (gAl.block gb hG.lt)
            have L := L.below gAl
            clear gAl
            generalize U19.heap.size = cb at hrs ⊢
            have eAl : U19.alloc (.cells (chE (⟨x0, ⟨xt, xk, xv, xst⟩, x5, ⟨yt, yk, yv, yst⟩⟩ : Chg)).toArray 61) = U19.alloc (.cells #[.bool x0, .int .i64 xt, .int .i64 xk, .int .i64 xv, .string xst, .bool x5, .int .i64 yt, .int .i64 yk, .int .i64 yv, .string yst] 61) := rfl
            try rw [eAl] at hrs
            try rw [eAl] at hd
            try rw [eAl] at hG
            try rw [eAl] at L
            try rw [eAl] at hHeld
            clear eAl
            generalize U19.alloc (.cells #[.bool x0, .int .i64 xt, .int .i64 xk, .int .i64 xv, .string xst, .bool x5, .int .i64 yt, .int .i64 yk, .int .i64 yv, .string yst] 61) = U32 at hrs hd hG L hHeld ⊢
            try simp only [Act.put]
            try simp only [List.setIfInBounds_toArray]
            try simp only [List.set]
            refine wpAnyH_ready (rs := [5, 13]) (by kernel_rfl) (by simp) ?_
            refine AllReadyH.cons rfl (fun K hK => ?_) (AllReadyH.cons rfl (fun K hK => ?_) (AllReadyH.nil))
            · obtain ⟨⟨z0, z1, z2, z3⟩, zf⟩ := hd j _ hi
              dsimp only at z0 z1 z2 z3
              go_simp
              refine hK.out _ _ hHeld (fun hHeld => ?_)
              clear hK K z0 z1 z2 z3 zf
              try simp only [Act.put]
              try simp only [List.setIfInBounds_toArray]
              try simp only [List.set]
              refine wpAnyH_ready (rs := [9, 13]) (by kernel_rfl) (by simp) ?_
              refine AllReadyH.cons rfl (fun K hK => ?_) (AllReadyH.cons rfl (fun K hK => ?_) (AllReadyH.nil))
              · have t := L.one j _ _ hi hx
                rw [if_pos (by kernel_rfl)]
                refine wp_append_sl elC _ _ _ rfl W6.heap.size (TxH.U (⟨hid, hua, hun, huc, hma, hmn, hmc, hla, hln, hlc⟩ : TxH)) xu [(⟨x0, ⟨xt, xk, xv, xst⟩, x5, ⟨yt, yk, yv, yst⟩⟩ : Chg)] (some ⟨cb, 0, none⟩) 1 1 rfl rfl rfl t.u hrs (show xu.length + 1 ≤ 100000000 by omega) hHeld.size ?_
                intro v4 U34 ho4 hg4 hob4
                refine hK.out _ _ (Below.grown hHeld hg4 hHeld.size (fun q e => (ownsRow_lo t.u q e).1)) (fun hHeld => ?_)
                clear hK K
                have hgb := hg4.block gb hG.lt (fun e => hG.ne t.u (by decide) e.symm)
                have hd := hd.block hgb
                have hG := hG.block hgb
                obtain ⟨a1, d1, e4, _⟩ := SlIn.ofRow chE_len ho4
                have hun1 : (xu ++ [(⟨x0, ⟨xt, xk, xv, xst⟩, x5, ⟨yt, yk, yv, yst⟩⟩ : Chg)]).length = u1 := by rw [List.length_append]; exact hu1.out
                rw [hun1] at e4
                subst e4
                have L := L.appU hi hx (a := a1) (n := u1) (c := d1) (us := xu ++ [(⟨x0, ⟨xt, xk, xv, xst⟩, x5, ⟨yt, yk, yv, yst⟩⟩ : Chg)]) (Kp.grown hg4) (Nx.of hob4) hun1.symm ho4
                clear t hgb hg4 hob4 ho4 hun1 hrs
                try simp only [Act.put]
                try simp only [List.setIfInBounds_toArray]
                try simp only [List.set]
                refine wpAnyH_ready (rs := [13]) (by kernel_rfl) (by simp) ?_
                refine AllReadyH.cons rfl (fun K hK => ?_) (AllReadyH.nil)
                obtain ⟨⟨z0, z1, z2, z3⟩, zf⟩ := hd j _ hi
                dsimp only at z0 z1 z2 z3
                go_simp
                refine hK.out _ _ hHeld (fun hHeld => ?_)
                clear hK K z0 z1 z2 z3 zf
                try simp only [Act.put]
                try simp only [List.setIfInBounds_toArray]
                try simp only [List.set]
                refine wpAnyH_ready (rs := [15]) (by kernel_rfl) (by simp) ?_
                refine AllReadyH.cons rfl (fun K hK => ?_) (AllReadyH.nil)
                have hi1 : (hs.set j (⟨hid, a1, u1, d1, hma, hmn, hmc, hla, hln, hlc⟩ : TxH))[j]? = some (⟨hid, a1, u1, d1, hma, hmn, hmc, hla, hln, hlc⟩ : TxH) := List.getElem?_set_self hjl
                have hx1 : (xs.set j ⟨xid, xu ++ [(⟨x0, ⟨xt, xk, xv, xst⟩, x5, ⟨yt, yk, yv, yst⟩⟩ : Chg)], xm, xl⟩)[j]? = some ⟨xid, xu ++ [(⟨x0, ⟨xt, xk, xv, xst⟩, x5, ⟨yt, yk, yv, yst⟩⟩ : Chg)], xm, xl⟩ := List.getElem?_set_self hxl
                have t := L.one j _ _ hi1 hx1
                have hcon := with_any W6 hla xl hln hlc kx ky U34 t.ln.symm hlb hHeld t.l
                go_simp
                go_wp2_with (go_at_call 81; refine hcon.mono ?_; rintro e U36 ⟨a2, d2, rfl, gB, o2, kp2, nx2⟩)
                refine hK.out _ _ gB (fun hHeld => ?_)
                clear hK K hcon gB
                have hgb := kp2.block gb hG.lt (fun e => hG.ne t.l (by decide) e.symm)
                have hd := hd.block hgb
                have hG := hG.block hgb
                have L := L.appL hi1 hx1 (a := a2) (n := (withL xl ⟨kx, ky⟩).length) (c := d2) (ls := withL xl ⟨kx, ky⟩) kp2 nx2 rfl o2
                rw [List.set_set, List.set_set] at L
                clear t hgb kp2 nx2 o2 hi1 hx1
                obtain ⟨l2, hl2⟩ : ∃ l2, (withL xl ⟨kx, ky⟩).length = l2 := ⟨_, rfl⟩
                rw [hl2] at L
                simp only [hl2]
                clear hl2
                try simp only [Act.put]
                try simp only [List.setIfInBounds_toArray]
                try simp only [List.set]
                refine wpAnyH_take (i := 16) (v := ?v39) rfl (by kernel_rfl) (by kernel_rfl) (by kernel_rfl) (fun _ _ _ h => h) (Or.inl ⟨by kernel_rfl, ?h39⟩) hHeld ?_
                case h39 => intro u hSw; clear hSw; go_simp; try with_reducible rfl
                try simp only [List.getElem_toArray]
                try simp only [List.getElem_cons_succ]
                try simp only [List.getElem_cons_zero]
                try simp only [Act.put]
                try simp only [List.setIfInBounds_toArray]
                try simp only [List.set]
                refine wpAnyH_take (i := 17) (v := ?v40) rfl (by kernel_rfl) (by kernel_rfl) (by kernel_rfl) (fun _ _ _ h => h) (Or.inl ⟨by kernel_rfl, ?h40⟩) hHeld ?_
                case h40 => intro u hSw; clear hSw; go_simp; try with_reducible rfl
                try simp only [List.getElem_toArray]
                try simp only [List.getElem_cons_succ]
                try simp only [List.getElem_cons_zero]
                try simp only [Act.put]
                try simp only [List.setIfInBounds_toArray]
                try simp only [List.set]
                obtain ⟨⟨z0, z1, z2, z3⟩, zf⟩ := hd j _ hi
                dsimp only at z0 z1 z2 z3
                have f1 := zf 1 (by omega)
                have T1 : Turned gb (gb + 1) U36 (U36.setCell ⟨gb, j * 4 + 1, none⟩ (.slice a1 u1 d1)) := (Turned.refl _ _ U36).setCell (p := ⟨gb, j * 4 + 1, none⟩) (Nat.le_refl _) (Nat.lt_succ_self _) _
                have hd1 : HdC (U36.setCell ⟨gb, j * 4 + 1, none⟩ (.slice a1 u1 d1)) gb (hs.set j (⟨hid, a1, u1, d1, hma, hmn, hmc, hla, hln, hlc⟩ : TxH)) := hd.set hi ⟨by rw [cell_off (by omega)]; exact z0, by simp [go_sem, z1], by rw [cell_off (by omega)]; exact z2, by rw [cell_off (by omega)]; exact z3⟩ (fun p hp => by rw [cell_off (by omega)]) (fun p => by rw [World.frozen?_setCell])
                have L1 := L.setBk T1 hG
                have hG1 := hG.set (j * 4 + 1) (.slice a1 u1 d1)
                refine wpAnyH_ready (rs := [18]) (by kernel_rfl) (by simp) ?_
                refine AllReadyH.cons rfl (fun K hK => ?_) AllReadyH.nil
                go_simp
                refine hK.out _ _ (hHeld.trans (T1.toBelow hHeld.size hg6)) (fun hHeld => ?_)
                clear hK K
                clear T1 z0 z1 z2 z3 zf f1 hd L hG
                generalize (U36.setCell ⟨gb, j * 4 + 1, none⟩ (.slice a1 u1 d1)) = Z1 at hd1 L1 hG1 hHeld ⊢
                try simp only [Act.put]
                try simp only [List.setIfInBounds_toArray]
                try simp only [List.set]
                refine wpAnyH_take (i := 19) (v := ?v41) rfl (by kernel_rfl) (by kernel_rfl) (by kernel_rfl) (fun _ _ _ h => h) (Or.inl ⟨by kernel_rfl, ?h41⟩) hHeld ?_
                case h41 => intro u hSw; clear hSw; go_simp; try with_reducible rfl
                try simp only [List.getElem_toArray]
                try simp only [List.getElem_cons_succ]
                try simp only [List.getElem_cons_zero]
                try simp only [Act.put]
                try simp only [List.setIfInBounds_toArray]
                try simp only [List.set]
                refine wpAnyH_take (i := 20) (v := ?v42) rfl (by kernel_rfl) (by kernel_rfl) (by kernel_rfl) (fun _ _ _ h => h) (Or.inl ⟨by kernel_rfl, ?h42⟩) hHeld ?_
                case h42 => intro u hSw; clear hSw; go_simp; try with_reducible rfl
                try simp only [List.getElem_toArray]
                try simp only [List.getElem_cons_succ]
                try simp only [List.getElem_cons_zero]
                try simp only [Act.put]
                try simp only [List.setIfInBounds_toArray]
                try simp only [List.set]
                have hi1 : (hs.set j (⟨hid, a1, u1, d1, hma, hmn, hmc, hla, hln, hlc⟩ : TxH))[j]? = some (⟨hid, a1, u1, d1, hma, hmn, hmc, hla, hln, hlc⟩ : TxH) := List.getElem?_set_self hjl
                obtain ⟨⟨z0, z1, z2, z3⟩, zf⟩ := hd1 j _ hi1
                dsimp only at z0 z1 z2 z3
                have f3 := zf 3 (by omega)
                have T1 : Turned gb (gb + 1) Z1 (Z1.setCell ⟨gb, j * 4 + 3, none⟩ (.slice a2 l2 d2)) := (Turned.refl _ _ Z1).setCell (p := ⟨gb, j * 4 + 3, none⟩) (Nat.le_refl _) (Nat.lt_succ_self _) _
                have hd2 : HdC (Z1.setCell ⟨gb, j * 4 + 3, none⟩ (.slice a2 l2 d2)) gb ((hs.set j (⟨hid, a1, u1, d1, hma, hmn, hmc, hla, hln, hlc⟩ : TxH)).set j (⟨hid, a1, u1, d1, hma, hmn, hmc, a2, l2, d2⟩ : TxH)) := hd1.set hi1 ⟨by rw [cell_off (by omega)]; exact z0, by rw [cell_off (by omega)]; exact z1, by rw [cell_off (by omega)]; exact z2, by simp [go_sem, z3]⟩ (fun p hp => by rw [cell_off (by omega)]) (fun p => by rw [World.frozen?_setCell])
                rw [List.set_set] at hd2
                have L2 := L1.setBk T1 hG1
                have hG2 := hG1.set (j * 4 + 3) (.slice a2 l2 d2)
                refine wpAnyH_ready (rs := [21]) (by kernel_rfl) (by simp) ?_
                refine AllReadyH.cons rfl (fun K hK => ?_) AllReadyH.nil
                go_simp
                refine hK.out _ _ (hHeld.trans (T1.toBelow hHeld.size hg6)) (fun hHeld => ?_)
                clear hK K
                clear T1 z0 z1 z2 z3 zf f3 hd1 L1 hG1 hi1
                generalize (Z1.setCell ⟨gb, j * 4 + 3, none⟩ (.slice a2 l2 d2)) = Z2 at hd2 L2 hG2 hHeld ⊢
                try simp only [Act.put]
                try simp only [List.setIfInBounds_toArray]
                try simp only [List.set]
                refine wpAnyH_done (by kernel_rfl) ?_ _
                have HOw : Hid (OwA W6.heap.size Z2 (some ⟨gb, 0, none⟩) (xs.set j (⟨xid, xu ++ [(⟨x0, ⟨xt, xk, xv, xst⟩, x5, ⟨yt, yk, yv, yst⟩⟩ : Chg)], xm, withL xl ⟨kx, ky⟩⟩ : TxV))) := L2.own hd2 hg6 (hG2.lists L2)
                have g9 := hHeld
                clear hHeld hd2 L2 hG2
                go_wp2_with fail
                go_meet
                case rel => exact ⟨g9, HOw.out⟩
              · obtain ⟨⟨z0, z1, z2, z3⟩, zf⟩ := hd j _ hi
                dsimp only at z0 z1 z2 z3
                go_simp
                refine hK.out _ _ hHeld (fun hHeld => ?_)
                clear hK K z0 z1 z2 z3 zf
                try simp only [Act.put]
                try simp only [List.setIfInBounds_toArray]
                try simp only [List.set]
                refine wpAnyH_ready (rs := [9]) (by kernel_rfl) (by simp) ?_
                refine AllReadyH.cons rfl (fun K hK => ?_) (AllReadyH.nil)
                have t := L.one j _ _ hi hx
                rw [if_pos (by kernel_rfl)]
                refine wp_append_sl elC _ _ _ rfl W6.heap.size (TxH.U (⟨hid, hua, hun, huc, hma, hmn, hmc, hla, hln, hlc⟩ : TxH)) xu [(⟨x0, ⟨xt, xk, xv, xst⟩, x5, ⟨yt, yk, yv, yst⟩⟩ : Chg)] (some ⟨cb, 0, none⟩) 1 1 rfl rfl rfl t.u hrs (show xu.length + 1 ≤ 100000000 by omega) hHeld.size ?_
                intro v4 U38 ho4 hg4 hob4
                refine hK.out _ _ (Below.grown hHeld hg4 hHeld.size (fun q e => (ownsRow_lo t.u q e).1)) (fun hHeld => ?_)
                clear hK K
                have hgb := hg4.block gb hG.lt (fun e => hG.ne t.u (by decide) e.symm)
                have hd := hd.block hgb
                have hG := hG.block hgb
                obtain ⟨a1, d1, e4, _⟩ := SlIn.ofRow chE_len ho4
                have hun1 : (xu ++ [(⟨x0, ⟨xt, xk, xv, xst⟩, x5, ⟨yt, yk, yv, yst⟩⟩ : Chg)]).length = u1 := by rw [List.length_append]; exact hu1.out
                rw [hun1] at e4
                subst e4
                have L := L.appU hi hx (a := a1) (n := u1) (c := d1) (us := xu ++ [(⟨x0, ⟨xt, xk, xv, xst⟩, x5, ⟨yt, yk, yv, yst⟩⟩ : Chg)]) (Kp.grown hg4) (Nx.of hob4) hun1.symm ho4
                clear t hgb hg4 hob4 ho4 hun1 hrs
                try simp only [Act.put]
                try simp only [List.setIfInBounds_toArray]
                try simp only [List.set]
                refine wpAnyH_ready (rs := [15]) (by kernel_rfl) (by simp) ?_
                refine AllReadyH.cons rfl (fun K hK => ?_) (AllReadyH.nil)
                have hi1 : (hs.set j (⟨hid, a1, u1, d1, hma, hmn, hmc, hla, hln, hlc⟩ : TxH))[j]? = some (⟨hid, a1, u1, d1, hma, hmn, hmc, hla, hln, hlc⟩ : TxH) := List.getElem?_set_self hjl
                have hx1 : (xs.set j ⟨xid, xu ++ [(⟨x0, ⟨xt, xk, xv, xst⟩, x5, ⟨yt, yk, yv, yst⟩⟩ : Chg)], xm, xl⟩)[j]? = some ⟨xid, xu ++ [(⟨x0, ⟨xt, xk, xv, xst⟩, x5, ⟨yt, yk, yv, yst⟩⟩ : Chg)], xm, xl⟩ := List.getElem?_set_self hxl
                have t := L.one j _ _ hi1 hx1
                have hcon := with_any W6 hla xl hln hlc kx ky U38 t.ln.symm hlb hHeld t.l
                go_simp
                go_wp2_with (go_at_call 81; refine hcon.mono ?_; rintro e U39 ⟨a2, d2, rfl, gB, o2, kp2, nx2⟩)
                refine hK.out _ _ gB (fun hHeld => ?_)
                clear hK K hcon gB
                have hgb := kp2.block gb hG.lt (fun e => hG.ne t.l (by decide) e.symm)
                have hd := hd.block hgb
                have hG := hG.block hgb
                have L := L.appL hi1 hx1 (a := a2) (n := (withL xl ⟨kx, ky⟩).length) (c := d2) (ls := withL xl ⟨kx, ky⟩) kp2 nx2 rfl o2
                rw [List.set_set, List.set_set] at L
                clear t hgb kp2 nx2 o2 hi1 hx1
                obtain ⟨l2, hl2⟩ : ∃ l2, (withL xl ⟨kx, ky⟩).length = l2 := ⟨_, rfl⟩
                rw [hl2] at L
                simp only [hl2]
                clear hl2
                try simp only [Act.put]
                try simp only [List.setIfInBounds_toArray]
                try simp only [List.set]
                refine wpAnyH_take (i := 16) (v := ?v43) rfl (by kernel_rfl) (by kernel_rfl) (by kernel_rfl) (fun _ _ _ h => h) (Or.inl ⟨by kernel_rfl, ?h43⟩) hHeld ?_
                case h43 => intro u hSw; clear hSw; go_simp; try with_reducible rfl
                try simp only [List.getElem_toArray]
                try simp only [List.getElem_cons_succ]
                try simp only [List.getElem_cons_zero]
                try simp only [Act.put]
                try simp only [List.setIfInBounds_toArray]
                try simp only [List.set]
                refine wpAnyH_take (i := 17) (v := ?v44) rfl (by kernel_rfl) (by kernel_rfl) (by kernel_rfl) (fun _ _ _ h => h) (Or.inl ⟨by kernel_rfl, ?h44⟩) hHeld ?_
                case h44 => intro u hSw; clear hSw; go_simp; try with_reducible rfl
                try simp only [List.getElem_toArray]
                try simp only [List.getElem_cons_succ]
                try simp only [List.getElem_cons_zero]
                try simp only [Act.put]
                try simp only [List.setIfInBounds_toArray]
                try simp only [List.set]
                obtain ⟨⟨z0, z1, z2, z3⟩, zf⟩ := hd j _ hi
                dsimp only at z0 z1 z2 z3
                have f1 := zf 1 (by omega)
                have T1 : Turned gb (gb + 1) U39 (U39.setCell ⟨gb, j * 4 + 1, none⟩ (.slice a1 u1 d1)) := (Turned.refl _ _ U39).setCell (p := ⟨gb, j * 4 + 1, none⟩) (Nat.le_refl _) (Nat.lt_succ_self _) _
                have hd1 : HdC (U39.setCell ⟨gb, j * 4 + 1, none⟩ (.slice a1 u1 d1)) gb (hs.set j (⟨hid, a1, u1, d1, hma, hmn, hmc, hla, hln, hlc⟩ : TxH)) := hd.set hi ⟨by rw [cell_off (by omega)]; exact z0, by simp [go_sem, z1], by rw [cell_off (by omega)]; exact z2, by rw [cell_off (by omega)]; exact z3⟩ (fun p hp => by rw [cell_off (by omega)]) (fun p => by rw [World.frozen?_setCell])
                have L1 := L.setBk T1 hG
                have hG1 := hG.set (j * 4 + 1) (.slice a1 u1 d1)
                refine wpAnyH_ready (rs := [18]) (by kernel_rfl) (by simp) ?_
                refine AllReadyH.cons rfl (fun K hK => ?_) AllReadyH.nil
                go_simp
                refine hK.out _ _ (hHeld.trans (T1.toBelow hHeld.size hg6)) (fun hHeld => ?_)
                clear hK K
                clear T1 z0 z1 z2 z3 zf f1 hd L hG
                generalize (U39.setCell ⟨gb, j * 4 + 1, none⟩ (.slice a1 u1 d1)) = Z1 at hd1 L1 hG1 hHeld ⊢
                try simp only [Act.put]
                try simp only [List.setIfInBounds_toArray]
                try simp only [List.set]
                refine wpAnyH_take (i := 19) (v := ?v45) rfl (by kernel_rfl) (by kernel_rfl) (by kernel_rfl) (fun _ _ _ h => h) (Or.inl ⟨by kernel_rfl, ?h45⟩) hHeld ?_
                case h45 => intro u hSw; clear hSw; go_simp; try with_reducible rfl
                try simp only [List.getElem_toArray]
                try simp only [List.getElem_cons_succ]
                try simp only [List.getElem_cons_zero]
                try simp only [Act.put]
                try simp only [List.setIfInBounds_toArray]
                try simp only [List.set]
                refine wpAnyH_take (i := 20) (v := ?v46) rfl (by kernel_rfl) (by kernel_rfl) (by kernel_rfl) (fun _ _ _ h => h) (Or.inl ⟨by kernel_rfl, ?h46⟩) hHeld ?_
                case h46 => intro u hSw; clear hSw; go_simp; try with_reducible rfl
                try simp only [List.getElem_toArray]
                try simp only [List.getElem_cons_succ]
                try simp only [List.getElem_cons_zero]
                try simp only [Act.put]
                try simp only [List.setIfInBounds_toArray]
                try simp only [List.set]
                have hi1 : (hs.set j (⟨hid, a1, u1, d1, hma, hmn, hmc, hla, hln, hlc⟩ : TxH))[j]? = some (⟨hid, a1, u1, d1, hma, hmn, hmc, hla, hln, hlc⟩ : TxH) := List.getElem?_set_self hjl
                obtain ⟨⟨z0, z1, z2, z3⟩, zf⟩ := hd1 j _ hi1
                dsimp only at z0 z1 z2 z3
                have f3 := zf 3 (by omega)
                have T1 : Turned gb (gb + 1) Z1 (Z1.setCell ⟨gb, j * 4 + 3, none⟩ (.slice a2 l2 d2)) := (Turned.refl _ _ Z1).setCell (p := ⟨gb, j * 4 + 3, none⟩) (Nat.le_refl _) (Nat.lt_succ_self _) _
                have hd2 : HdC (Z1.setCell ⟨gb, j * 4 + 3, none⟩ (.slice a2 l2 d2)) gb ((hs.set j (⟨hid, a1, u1, d1, hma, hmn, hmc, hla, hln, hlc⟩ : TxH)).set j (⟨hid, a1, u1, d1, hma, hmn, hmc, a2, l2, d2⟩ : TxH)) := hd1.set hi1 ⟨by rw [cell_off (by omega)]; exact z0, by rw [cell_off (by omega)]; exact z1, by rw [cell_off (by omega)]; exact z2, by simp [go_sem, z3]⟩ (fun p hp => by rw [cell_off (by omega)]) (fun p => by rw [World.frozen?_setCell])
                rw [List.set_set] at hd2
                have L2 := L1.setBk T1 hG1
                have hG2 := hG1.set (j * 4 + 3) (.slice a2 l2 d2)
                refine wpAnyH_ready (rs := [21]) (by kernel_rfl) (by simp) ?_
                refine AllReadyH.cons rfl (fun K hK => ?_) AllReadyH.nil
                go_simp
                refine hK.out _ _ (hHeld.trans (T1.toBelow hHeld.size hg6)) (fun hHeld => ?_)
                clear hK K
                clear T1 z0 z1 z2 z3 zf f3 hd1 L1 hG1 hi1
                generalize (Z1.setCell ⟨gb, j * 4 + 3, none⟩ (.slice a2 l2 d2)) = Z2 at hd2 L2 hG2 hHeld ⊢
                try simp only [Act.put]
                try simp only [List.setIfInBounds_toArray]
                try simp only [List.set]
                refine wpAnyH_done (by kernel_rfl) ?_ _
                have HOw : Hid (OwA W6.heap.size Z2 (some ⟨gb, 0, none⟩) (xs.set j (⟨xid, xu ++ [(⟨x0, ⟨xt, xk, xv, xst⟩, x5, ⟨yt, yk, yv, yst⟩⟩ : Chg)], xm, withL xl ⟨kx, ky⟩⟩ : TxV))) := L2.own hd2 hg6 (hG2.lists L2)
                have g9 := hHeld
                clear hHeld hd2 L2 hG2
                go_wp2_with fail
                go_meet
                case rel => exact ⟨g9, HOw.out⟩
            · obtain ⟨⟨z0, z1, z2, z3⟩, zf⟩ := hd j _ hi
              dsimp only at z0 z1 z2 z3
              go_simp
              refine hK.out _ _ hHeld (fun hHeld => ?_)
              clear hK K z0 z1 z2 z3 zf
              try simp only [Act.put]
              try simp only [List.setIfInBounds_toArray]
              try simp only [List.set]
              refine wpAnyH_ready (rs := [5]) (by kernel_rfl) (by simp) ?_
              refine AllReadyH.cons rfl (fun K hK => ?_) (AllReadyH.nil)
              obtain ⟨⟨z0, z1, z2, z3⟩, zf⟩ := hd j _ hi
              dsimp only at z0 z1 z2 z3
              go_simp
              refine hK.out _ _ hHeld (fun hHeld => ?_)
              clear hK K z0 z1 z2 z3 zf
              try simp only [Act.put]
              try simp only [List.setIfInBounds_toArray]
              try simp only [List.set]
              refine wpAnyH_ready (rs := [9]) (by kernel_rfl) (by simp) ?_
              refine AllReadyH.cons rfl (fun K hK => ?_) (AllReadyH.nil)
              have t := L.one j _ _ hi hx
              rw [if_pos (by kernel_rfl)]
              refine wp_append_sl elC _ _ _ rfl W6.heap.size (TxH.U (⟨hid, hua, hun, huc, hma, hmn, hmc, hla, hln, hlc⟩ : TxH)) xu [(⟨x0, ⟨xt, xk, xv, xst⟩, x5, ⟨yt, yk, yv, yst⟩⟩ : Chg)] (some ⟨cb, 0, none⟩) 1 1 rfl rfl rfl t.u hrs (show xu.length + 1 ≤ 100000000 by omega) hHeld.size ?_
              intro v4 U42 ho4 hg4 hob4
              refine hK.out _ _ (Below.grown hHeld hg4 hHeld.size (fun q e => (ownsRow_lo t.u q e).1)) (fun hHeld => ?_)
              clear hK K
              have hgb := hg4.block gb hG.lt (fun e => hG.ne t.u (by decide) e.symm)
              have hd := hd.block hgb
              have hG := hG.block hgb
              obtain ⟨a1, d1, e4, _⟩ := SlIn.ofRow chE_len ho4
              have hun1 : (xu ++ [(⟨x0, ⟨xt, xk, xv, xst⟩, x5, ⟨yt, yk, yv, yst⟩⟩ : Chg)]).length = u1 := by rw [List.length_append]; exact hu1.out
              rw [hun1] at e4
              subst e4
              have L := L.appU hi hx (a := a1) (n := u1) (c := d1) (us := xu ++ [(⟨x0, ⟨xt, xk, xv, xst⟩, x5, ⟨yt, yk, yv, yst⟩⟩ : Chg)]) (Kp.grown hg4) (Nx.of hob4) hun1.symm ho4
              clear t hgb hg4 hob4 ho4 hun1 hrs
              try simp only [Act.put]
              try simp only [List.setIfInBounds_toArray]
              try simp only [List.set]
              refine wpAnyH_ready (rs := [15]) (by kernel_rfl) (by simp) ?_
              refine AllReadyH.cons rfl (fun K hK => ?_) (AllReadyH.nil)
              have hi1 : (hs.set j (⟨hid, a1, u1, d1, hma, hmn, hmc, hla, hln, hlc⟩ : TxH))[j]? = some (⟨hid, a1, u1, d1, hma, hmn, hmc, hla, hln, hlc⟩ : TxH) := List.getElem?_set_self hjl
              have hx1 : (xs.set j ⟨xid, xu ++ [(⟨x0, ⟨xt, xk, xv, xst⟩, x5, ⟨yt, yk, yv, yst⟩⟩ : Chg)], xm, xl⟩)[j]? = some ⟨xid, xu ++ [(⟨x0, ⟨xt, xk, xv, xst⟩, x5, ⟨yt, yk, yv, yst⟩⟩ : Chg)], xm, xl⟩ := List.getElem?_set_self hxl
              have t := L.one j _ _ hi1 hx1
              have hcon := with_any W6 hla xl hln hlc kx ky U42 t.ln.symm hlb hHeld t.l
              go_simp
              go_wp2_with (go_at_call 81; refine hcon.mono ?_; rintro e U43 ⟨a2, d2, rfl, gB, o2, kp2, nx2⟩)
              refine hK.out _ _ gB (fun hHeld => ?_)
              clear hK K hcon gB
              have hgb := kp2.block gb hG.lt (fun e => hG.ne t.l (by decide) e.symm)
              have hd := hd.block hgb
              have hG := hG.block hgb
              have L := L.appL hi1 hx1 (a := a2) (n := (withL xl ⟨kx, ky⟩).length) (c := d2) (ls := withL xl ⟨kx, ky⟩) kp2 nx2 rfl o2
              rw [List.set_set, List.set_set] at L
              clear t hgb kp2 nx2 o2 hi1 hx1
              obtain ⟨l2, hl2⟩ : ∃ l2, (withL xl ⟨kx, ky⟩).length = l2 := ⟨_, rfl⟩
              rw [hl2] at L
              simp only [hl2]
              clear hl2
              try simp only [Act.put]
              try simp only [List.setIfInBounds_toArray]
              try simp only [List.set]
              refine wpAnyH_take (i := 16) (v := ?v47) rfl (by kernel_rfl) (by kernel_rfl) (by kernel_rfl) (fun _ _ _ h => h) (Or.inl ⟨by kernel_rfl, ?h47⟩) hHeld ?_
              case h47 => intro u hSw; clear hSw; go_simp; try with_reducible rfl
              try simp only [List.getElem_toArray]
              try simp only [List.getElem_cons_succ]
              try simp only [List.getElem_cons_zero]
              try simp only [Act.put]
              try simp only [List.setIfInBounds_toArray]
              try simp only [List.set]
              refine wpAnyH_take (i := 17) (v := ?v48) rfl (by kernel_rfl) (by kernel_rfl) (by kernel_rfl) (fun _ _ _ h => h) (Or.inl ⟨by kernel_rfl, ?h48⟩) hHeld ?_
              case h48 => intro u hSw; clear hSw; go_simp; try with_reducible rfl
              try simp only [List.getElem_toArray]
              try simp only [List.getElem_cons_succ]
              try simp only [List.getElem_cons_zero]
              try simp only [Act.put]
              try simp only [List.setIfInBounds_toArray]
              try simp only [List.set]
              obtain ⟨⟨z0, z1, z2, z3⟩, zf⟩ := hd j _ hi
              dsimp only at z0 z1 z2 z3
              have f1 := zf 1 (by omega)
              have T1 : Turned gb (gb + 1) U43 (U43.setCell ⟨gb, j * 4 + 1, none⟩ (.slice a1 u1 d1)) := (Turned.refl _ _ U43).setCell (p := ⟨gb, j * 4 + 1, none⟩) (Nat.le_refl _) (Nat.lt_succ_self _) _
              have hd1 : HdC (U43.setCell ⟨gb, j * 4 + 1, none⟩ (.slice a1 u1 d1)) gb (hs.set j (⟨hid, a1, u1, d1, hma, hmn, hmc, hla, hln, hlc⟩ : TxH)) := hd.set hi ⟨by rw [cell_off (by omega)]; exact z0, by simp [go_sem, z1], by rw [cell_off (by omega)]; exact z2, by rw [cell_off (by omega)]; exact z3⟩ (fun p hp => by rw [cell_off (by omega)]) (fun p => by rw [World.frozen?_setCell])
              have L1 := L.setBk T1 hG
              have hG1 := hG.set (j * 4 + 1) (.slice a1 u1 d1)
              refine wpAnyH_ready (rs := [18]) (by kernel_rfl) (by simp) ?_
              refine AllReadyH.cons rfl (fun K hK => ?_) AllReadyH.nil
              go_simp
              refine hK.out _ _ (hHeld.trans (T1.toBelow hHeld.size hg6)) (fun hHeld => ?_)
              clear hK K
              clear T1 z0 z1 z2 z3 zf f1 hd L hG
              generalize (U43.setCell ⟨gb, j * 4 + 1, none⟩ (.slice a1 u1 d1)) = Z1 at hd1 L1 hG1 hHeld ⊢
              try simp only [Act.put]
              try simp only [List.setIfInBounds_toArray]
              try simp only [List.set]
              refine wpAnyH_take (i := 19) (v := ?v49) rfl (by kernel_rfl) (by kernel_rfl) (by kernel_rfl) (fun _ _ _ h => h) (Or.inl ⟨by kernel_rfl, ?h49⟩) hHeld ?_
              case h49 => intro u hSw; clear hSw; go_simp; try with_reducible rfl
              try simp only [List.getElem_toArray]
              try simp only [List.getElem_cons_succ]
              try simp only [List.getElem_cons_zero]
              try simp only [Act.put]
              try simp only [List.setIfInBounds_toArray]
              try simp only [List.set]
              refine wpAnyH_take (i := 20) (v := ?v50) rfl (by kernel_rfl) (by kernel_rfl) (by kernel_rfl) (fun _ _ _ h => h) (Or.inl ⟨by kernel_rfl, ?h50⟩) hHeld ?_
              case h50 => intro u hSw; clear hSw; go_simp; try with_reducible rfl
              try simp only [List.getElem_toArray]
              try simp only [List.getElem_cons_succ]
              try simp only [List.getElem_cons_zero]
              try simp only [Act.put]
              try simp only [List.setIfInBounds_toArray]
              try simp only [List.set]
              have hi1 : (hs.set j (⟨hid, a1, u1, d1, hma, hmn, hmc, hla, hln, hlc⟩ : TxH))[j]? = some (⟨hid, a1, u1, d1, hma, hmn, hmc, hla, hln, hlc⟩ : TxH) := List.getElem?_set_self hjl
              obtain ⟨⟨z0, z1, z2, z3⟩, zf⟩ := hd1 j _ hi1
              dsimp only at z0 z1 z2 z3
              have f3 := zf 3 (by omega)
              have T1 : Turned gb (gb + 1) Z1 (Z1.setCell ⟨gb, j * 4 + 3, none⟩ (.slice a2 l2 d2)) := (Turned.refl _ _ Z1).setCell (p := ⟨gb, j * 4 + 3, none⟩) (Nat.le_refl _) (Nat.lt_succ_self _) _
              have hd2 : HdC (Z1.setCell ⟨gb, j * 4 + 3, none⟩ (.slice a2 l2 d2)) gb ((hs.set j (⟨hid, a1, u1, d1, hma, hmn, hmc, hla, hln, hlc⟩ : TxH)).set j (⟨hid, a1, u1, d1, hma, hmn, hmc, a2, l2, d2⟩ : TxH)) := hd1.set hi1 ⟨by rw [cell_off (by omega)]; exact z0, by rw [cell_off (by omega)]; exact z1, by rw [cell_off (by omega)]; exact z2, by simp [go_sem, z3]⟩ (fun p hp => by rw [cell_off (by omega)]) (fun p => by rw [World.frozen?_setCell])
              rw [List.set_set] at hd2
              have L2 := L1.setBk T1 hG1
              have hG2 := hG1.set (j * 4 + 3) (.slice a2 l2 d2)
              refine wpAnyH_ready (rs := [21]) (by kernel_rfl) (by simp) ?_
              refine AllReadyH.cons rfl (fun K hK => ?_) AllReadyH.nil
              go_simp
              refine hK.out _ _ (hHeld.trans (T1.toBelow hHeld.size hg6)) (fun hHeld => ?_)
              clear hK K
              clear T1 z0 z1 z2 z3 zf f3 hd1 L1 hG1 hi1
              generalize (Z1.setCell ⟨gb, j * 4 + 3, none⟩ (.slice a2 l2 d2)) = Z2 at hd2 L2 hG2 hHeld ⊢
              try simp only [Act.put]
              try simp only [List.setIfInBounds_toArray]
              try simp only [List.set]
              refine wpAnyH_done (by kernel_rfl) ?_ _
              have HOw : Hid (OwA W6.heap.size Z2 (some ⟨gb, 0, none⟩) (xs.set j (⟨xid, xu ++ [(⟨x0, ⟨xt, xk, xv, xst⟩, x5, ⟨yt, yk, yv, yst⟩⟩ : Chg)], xm, withL xl ⟨kx, ky⟩⟩ : TxV))) := L2.own hd2 hg6 (hG2.lists L2)
              have g9 := hHeld
              clear hHeld hd2 L2 hG2
              go_wp2_with fail
              go_meet
              case rel => exact ⟨g9, HOw.out⟩
          · obtain ⟨⟨z0, z1, z2, z3⟩, zf⟩ := hd j _ hi
            dsimp only at z0 z1 z2 z3
            go_simp
            refine hK.out _ _ hHeld (fun hHeld => ?_)
            clear hK K z0 z1 z2 z3 zf
            try simp only [Act.put]
            try simp only [List.setIfInBounds_toArray]
            try simp only [List.set]
            refine wpAnyH_ready (rs := [5, 8]) (by kernel_rfl) (by simp) ?_
            refine AllReadyH.cons rfl (fun K hK => ?_) (AllReadyH.cons rfl (fun K hK => ?_) (AllReadyH.nil))
            · obtain ⟨⟨z0, z1, z2, z3⟩, zf⟩ := hd j _ hi
              dsimp only at z0 z1 z2 z3
              go_simp
              refine hK.out _ _ hHeld (fun hHeld => ?_)
              clear hK K z0 z1 z2 z3 zf
              try simp only [Act.put]
              try simp only [List.setIfInBounds_toArray]
              try simp only [List.set]
              refine wpAnyH_ready (rs := [8]) (by kernel_rfl) (by simp) ?_
              refine AllReadyH.cons rfl (fun K hK => ?_) (AllReadyH.nil)
              have gAl : Below U19.heap.size U19 (U19.alloc (.cells (chE (⟨x0, ⟨xt, xk, xv, xst⟩, x5, ⟨yt, yk, yv, yst⟩⟩ : Chg)).toArray 61)) := by go_grown
              have hrs : Rs chE 10 (U19.alloc (.cells (chE (⟨x0, ⟨xt, xk, xv, xst⟩, x5, ⟨yt, yk, yv, yst⟩⟩ : Chg)).toArray 61)) (some ⟨U19.heap.size, 0, none⟩) [(⟨x0, ⟨xt, xk, xv, xst⟩, x5, ⟨yt, yk, yv, yst⟩⟩ : Chg)] := rs_one (enc := chE) U19 (⟨x0, ⟨xt, xk, xv, xst⟩, x5, ⟨yt, yk, yv, yst⟩⟩ : Chg) 61
              go_simp
              refine hK.out _ _ (hHeld.trans (gAl.mono hHeld.size)) (fun hHeld => ?_)
              clear hK K
              have hd := hd.block (gAl.block gb hG.lt)
              have hG := hG.block (gAl.block gb hG.lt)
              have L := L.below gAl
              clear gAl
              generalize U19.heap.size = cb at hrs ⊢
              have eAl : U19.alloc (.cells (chE (⟨x0, ⟨xt, xk, xv, xst⟩, x5, ⟨yt, yk, yv, yst⟩⟩ : Chg)).toArray 61) = U19.alloc (.cells #[.bool x0, .int .i64 xt, .int .i64 xk, .int .i64 xv, .string xst, .bool x5, .int .i64 yt, .int .i64 yk, .int .i64 yv, .string yst] 61) := rfl
              try rw [eAl] at hrs
              try rw [eAl] at hd
              try rw [eAl] at hG
              try rw [eAl] at L
              try rw [eAl] at hHeld
              clear eAl
              generalize U19.alloc (.cells #[.bool x0, .int .i64 xt, .int .i64 xk, .int .i64 xv, .string xst, .bool x5, .int .i64 yt, .int .i64 yk, .int .i64 yv, .string yst] 61) = U46 at hrs hd hG L hHeld ⊢
              try simp only [Act.put]
              try simp only [List.setIfInBounds_toArray]
              try simp only [List.set]
              refine wpAnyH_ready (rs := [9]) (by kernel_rfl) (by simp) ?_
              refine AllReadyH.cons rfl (fun K hK => ?_) (AllReadyH.nil)
              have t := L.one j _ _ hi hx
              rw [if_pos (by kernel_rfl)]
              refine wp_append_sl elC _ _ _ rfl W6.heap.size (TxH.U (⟨hid, hua, hun, huc, hma, hmn, hmc, hla, hln, hlc⟩ : TxH)) xu [(⟨x0, ⟨xt, xk, xv, xst⟩, x5, ⟨yt, yk, yv, yst⟩⟩ : Chg)] (some ⟨cb, 0, none⟩) 1 1 rfl rfl rfl t.u hrs (show xu.length + 1 ≤ 100000000 by omega) hHeld.size ?_
              intro v4 U47 ho4 hg4 hob4
              refine hK.out _ _ (Below.grown hHeld hg4 hHeld.size (fun q e => (ownsRow_lo t.u q e).1)) (fun hHeld => ?_)
              clear hK K
              have hgb := hg4.block gb hG.lt (fun e => hG.ne t.u (by decide) e.symm)
              have hd := hd.block hgb
              have hG := hG.block hgb
              obtain ⟨a1, d1, e4, _⟩ := SlIn.ofRow chE_len ho4
              have hun1 : (xu ++ [(⟨x0, ⟨xt, xk, xv, xst⟩, x5, ⟨yt, yk, yv, yst⟩⟩ : Chg)]).length = u1 := by rw [List.length_append]; exact hu1.out
              rw [hun1] at e4
              subst e4
              have L := L.appU hi hx (a := a1) (n := u1) (c := d1) (us := xu ++ [(⟨x0, ⟨xt, xk, xv, xst⟩, x5, ⟨yt, yk, yv, yst⟩⟩ : Chg)]) (Kp.grown hg4) (Nx.of hob4) hun1.symm ho4
              clear t hgb hg4 hob4 ho4 hun1 hrs
              try simp only [Act.put]
              try simp only [List.setIfInBounds_toArray]
              try simp only [List.set]
              refine wpAnyH_ready (rs := [15]) (by kernel_rfl) (by simp) ?_
              refine AllReadyH.cons rfl (fun K hK => ?_) (AllReadyH.nil)
              have hi1 : (hs.set j (⟨hid, a1, u1, d1, hma, hmn, hmc, hla, hln, hlc⟩ : TxH))[j]? = some (⟨hid, a1, u1, d1, hma, hmn, hmc, hla, hln, hlc⟩ : TxH) := List.getElem?_set_self hjl
              have hx1 : (xs.set j ⟨xid, xu ++ [(⟨x0, ⟨xt, xk, xv, xst⟩, x5, ⟨yt, yk, yv, yst⟩⟩ : Chg)], xm, xl⟩)[j]? = some ⟨xid, xu ++ [(⟨x0, ⟨xt, xk, xv, xst⟩, x5, ⟨yt, yk, yv, yst⟩⟩ : Chg)], xm, xl⟩ := List.getElem?_set_self hxl
              have t := L.one j _ _ hi1 hx1
              have hcon := with_any W6 hla xl hln hlc kx ky U47 t.ln.symm hlb hHeld t.l
              go_simp
              go_wp2_with (go_at_call 81; refine hcon.mono ?_; rintro e U48 ⟨a2, d2, rfl, gB, o2, kp2, nx2⟩)
              refine hK.out _ _ gB (fun hHeld => ?_)
              clear hK K hcon gB
              have hgb := kp2.block gb hG.lt (fun e => hG.ne t.l (by decide) e.symm)
              have hd := hd.block hgb
              have hG := hG.block hgb
              have L := L.appL hi1 hx1 (a := a2) (n := (withL xl ⟨kx, ky⟩).length) (c := d2) (ls := withL xl ⟨kx, ky⟩) kp2 nx2 rfl o2
              rw [List.set_set, List.set_set] at L
              clear t hgb kp2 nx2 o2 hi1 hx1
              obtain ⟨l2, hl2⟩ : ∃ l2, (withL xl ⟨kx, ky⟩).length = l2 := ⟨_, rfl⟩
              rw [hl2] at L
              simp only [hl2]
              clear hl2
              try simp only [Act.put]
              try simp only [List.setIfInBounds_toArray]
              try simp only [List.set]
              refine wpAnyH_take (i := 16) (v := ?v51) rfl (by kernel_rfl) (by kernel_rfl) (by kernel_rfl) (fun _ _ _ h => h) (Or.inl ⟨by kernel_rfl, ?h51⟩) hHeld ?_
              case h51 => intro u hSw; clear hSw; go_simp; try with_reducible rfl
              try simp only [List.getElem_toArray]
              try simp only [List.getElem_cons_succ]
              try simp only [List.getElem_cons_zero]
              try simp only [Act.put]
              try simp only [List.setIfInBounds_toArray]
              try simp only [List.set]
              refine wpAnyH_take (i := 17) (v := ?v52) rfl (by kernel_rfl) (by kernel_rfl) (by kernel_rfl) (fun _ _ _ h => h) (Or.inl ⟨by kernel_rfl, ?h52⟩) hHeld ?_
              case h52 => intro u hSw; clear hSw; go_simp; try with_reducible rfl
              try simp only [List.getElem_toArray]
              try simp only [List.getElem_cons_succ]
              try simp only [List.getElem_cons_zero]
              try simp only [Act.put]
              try simp only [List.setIfInBounds_toArray]
              try simp only [List.set]
              obtain ⟨⟨z0, z1, z2, z3⟩, zf⟩ := hd j _ hi
              dsimp only at z0 z1 z2 z3
              have f1 := zf 1 (by omega)
              have T1 : Turned gb (gb + 1) U48 (U48.setCell ⟨gb, j * 4 + 1, none⟩ (.slice a1 u1 d1)) := (Turned.refl _ _ U48).setCell (p := ⟨gb, j * 4 + 1, none⟩) (Nat.le_refl _) (Nat.lt_succ_self _) _
              have hd1 : HdC (U48.setCell ⟨gb, j * 4 + 1, none⟩ (.slice a1 u1 d1)) gb (hs.set j (⟨hid, a1, u1, d1, hma, hmn, hmc, hla, hln, hlc⟩ : TxH)) := hd.set hi ⟨by rw [cell_off (by omega)]; exact z0, by simp [go_sem, z1], by rw [cell_off (by omega)]; exact z2, by rw [cell_off (by omega)]; exact z3⟩ (fun p hp => by rw [cell_off (by omega)]) (fun p => by rw [World.frozen?_setCell])
              have L1 := L.setBk T1 hG
              have hG1 := hG.set (j * 4 + 1) (.slice a1 u1 d1)
              refine wpAnyH_ready (rs := [18]) (by kernel_rfl) (by simp) ?_
              refine AllReadyH.cons rfl (fun K hK => ?_) AllReadyH.nil
              go_simp
              refine hK.out _ _ (hHeld.trans (T1.toBelow hHeld.size hg6)) (fun hHeld => ?_)
              clear hK K
              clear T1 z0 z1 z2 z3 zf f1 hd L hG
              generalize (U48.setCell ⟨gb, j * 4 + 1, none⟩ (.slice a1 u1 d1)) = Z1 at hd1 L1 hG1 hHeld ⊢
              try simp only [Act.put]
              try simp only [List.setIfInBounds_toArray]
              try simp only [List.set]
              refine wpAnyH_take (i := 19) (v := ?v53) rfl (by kernel_rfl) (by kernel_rfl) (by kernel_rfl) (fun _ _ _ h => h) (Or.inl ⟨by kernel_rfl, ?h53⟩) hHeld ?_
              case h53 => intro u hSw; clear hSw; go_simp; try with_reducible rfl
              try simp only [List.getElem_toArray]
              try simp only [List.getElem_cons_succ]
              try simp only [List.getElem_cons_zero]
              try simp only [Act.put]
              try simp only [List.setIfInBounds_toArray]
              try simp only [List.set]
              refine wpAnyH_take (i := 20) (v := ?v54) rfl (by kernel_rfl) (by kernel_rfl) (by kernel_rfl) (fun _ _ _ h => h) (Or.inl ⟨by kernel_rfl, ?h54⟩) hHeld ?_
              case h54 => intro u hSw; clear hSw; go_simp; try with_reducible rfl
              try simp only [List.getElem_toArray]
              try simp only [List.getElem_cons_succ]
              try simp only [List.getElem_cons_zero]
              try simp only [Act.put]
              try simp only [List.setIfInBounds_toArray]
              try simp only [List.set]
              have hi1 : (hs.set j (⟨hid, a1, u1, d1, hma, hmn, hmc, hla, hln, hlc⟩ : TxH))[j]? = some (⟨hid, a1, u1, d1, hma, hmn, hmc, hla, hln, hlc⟩ : TxH) := List.getElem?_set_self hjl
              obtain ⟨⟨z0, z1, z2, z3⟩, zf⟩ := hd1 j _ hi1
              dsimp only at z0 z1 z2 z3
              have f3 := zf 3 (by omega)
              have T1 : Turned gb (gb + 1) Z1 (Z1.setCell ⟨gb, j * 4 + 3, none⟩ (.slice a2 l2 d2)) := (Turned.refl _ _ Z1).setCell (p := ⟨gb, j * 4 + 3, none⟩) (Nat.le_refl _) (Nat.lt_succ_self _) _
              have hd2 : HdC (Z1.setCell ⟨gb, j * 4 + 3, none⟩ (.slice a2 l2 d2)) gb ((hs.set j (⟨hid, a1, u1, d1, hma, hmn, hmc, hla, hln, hlc⟩ : TxH)).set j (⟨hid, a1, u1, d1, hma, hmn, hmc, a2, l2, d2⟩ : TxH)) := hd1.set hi1 ⟨by rw [cell_off (by omega)]; exact z0, by rw [cell_off (by omega)]; exact z1, by rw [cell_off (by omega)]; exact z2, by simp [go_sem, z3]⟩ (fun p hp => by rw [cell_off (by omega)]) (fun p => by rw [World.frozen?_setCell])
              rw [List.set_set] at hd2
              have L2 := L1.setBk T1 hG1
              have hG2 := hG1.set (j * 4 + 3) (.slice a2 l2 d2)
              refine wpAnyH_ready (rs := [21]) (by kernel_rfl) (by simp) ?_
              refine AllReadyH.cons rfl (fun K hK => ?_) AllReadyH.nil
              go_simp
              refine hK.out _ _ (hHeld.trans (T1.toBelow hHeld.size hg6)) (fun hHeld => ?_)
              clear hK K
              clear T1 z0 z1 z2 z3 zf f3 hd1 L1 hG1 hi1
              generalize (Z1.setCell ⟨gb, j * 4 + 3, none⟩ (.slice a2 l2 d2)) = Z2 at hd2 L2 hG2 hHeld ⊢
              try simp only [Act.put]
              try simp only [List.setIfInBounds_toArray]
              try simp only [List.set]
              refine wpAnyH_done (by kernel_rfl) ?_ _
              have HOw : Hid (OwA W6.heap.size Z2 (some ⟨gb, 0, none⟩) (xs.set j (⟨xid, xu ++ [(⟨x0, ⟨xt, xk, xv, xst⟩, x5, ⟨yt, yk, yv, yst⟩⟩ : Chg)], xm, withL xl ⟨kx, ky⟩⟩ : TxV))) := L2.own hd2 hg6 (hG2.lists L2)
              have g9 := hHeld
              clear hHeld hd2 L2 hG2
              go_wp2_with fail
              go_meet
              case rel => exact ⟨g9, HOw.out⟩
            · have gAl : Below U19.heap.size U19 (U19.alloc (.cells (chE (⟨x0, ⟨xt, xk, xv, xst⟩, x5, ⟨yt, yk, yv, yst⟩⟩ : Chg)).toArray 61)) := by go_grown
              have hrs : Rs chE 10 (U19.alloc (.cells (chE (⟨x0, ⟨xt, xk, xv, xst⟩, x5, ⟨yt, yk, yv, yst⟩⟩ : Chg)).toArray 61)) (some ⟨U19.heap.size, 0, none⟩) [(⟨x0, ⟨xt, xk, xv, xst⟩, x5, ⟨yt, yk, yv, yst⟩⟩ : Chg)] := rs_one (enc := chE) U19 (⟨x0, ⟨xt, xk, xv, xst⟩, x5, ⟨yt, yk, yv, yst⟩⟩ : Chg) 61
              go_simp
              refine hK.out _ _ (hHeld.trans (gAl.mono hHeld.size)) (fun hHeld => ?_)
              clear hK K
              have hd := hd.block (gAl.block gb hG.lt)
              have hG := hG.block (gAl.block gb hG.lt)
              have L := L.below gAl
              clear gAl
              generalize U19.heap.size = cb at hrs ⊢
              have eAl : U19.alloc (.cells (chE (⟨x0, ⟨xt, xk, xv, xst⟩, x5, ⟨yt, yk, yv, yst⟩⟩ : Chg)).toArray 61) = U19.alloc (.cells #[.bool x0, .int .i64 xt, .int .i64 xk, .int .i64 xv, .string xst, .bool x5, .int .i64 yt, .int .i64 yk, .int .i64 yv, .string yst] 61) := rfl
              try rw [eAl] at hrs
              try rw [eAl] at hd
              try rw [eAl] at hG
              try rw [eAl] at L
              try rw [eAl] at hHeld
              clear eAl
              generalize U19.alloc (.cells #[.bool x0, .int .i64 xt, .int .i64 xk, .int .i64 xv, .string xst, .bool x5, .int .i64 yt, .int .i64 yk, .int .i64 yv, .string yst] 61) = U49 at hrs hd hG L hHeld ⊢
              try simp only [Act.put]
              try simp only [List.setIfInBounds_toArray]
              try simp only [List.set]
              refine wpAnyH_ready (rs := [5]) (by kernel_rfl) (by simp) ?_
              refine AllReadyH.cons rfl (fun K hK => ?_) (AllReadyH.nil)
              obtain ⟨⟨z0, z1, z2, z3⟩, zf⟩ := hd j _ hi
              dsimp only at z0 z1 z2 z3
              go_simp
              refine hK.out _ _ hHeld (fun hHeld => ?_)
              clear hK K z0 z1 z2 z3 zf
              try simp only [Act.put]
              try simp only [List.setIfInBounds_toArray]
              try simp only [List.set]
              refine wpAnyH_ready (rs := [9]) (by kernel_rfl) (by simp) ?_
              refine AllReadyH.cons rfl (fun K hK => ?_) (AllReadyH.nil)
              have t := L.one j _ _ hi hx
              rw [if_pos (by kernel_rfl)]
              refine wp_append_sl elC _ _ _ rfl W6.heap.size (TxH.U (⟨hid, hua, hun, huc, hma, hmn, hmc, hla, hln, hlc⟩ : TxH)) xu [(⟨x0, ⟨xt, xk, xv, xst⟩, x5, ⟨yt, yk, yv, yst⟩⟩ : Chg)] (some ⟨cb, 0, none⟩) 1 1 rfl rfl rfl t.u hrs (show xu.length + 1 ≤ 100000000 by omega) hHeld.size ?_
              intro v4 U51 ho4 hg4 hob4
              refine hK.out _ _ (Below.grown hHeld hg4 hHeld.size (fun q e => (ownsRow_lo t.u q e).1)) (fun hHeld => ?_)
              clear hK K
              have hgb := hg4.block gb hG.lt (fun e => hG.ne t.u (by decide) e.symm)
              have hd := hd.block hgb
              have hG := hG.block hgb
              obtain ⟨a1, d1, e4, _⟩ := SlIn.ofRow chE_len ho4
              have hun1 : (xu ++ [(⟨x0, ⟨xt, xk, xv, xst⟩, x5, ⟨yt, yk, yv, yst⟩⟩ : Chg)]).length = u1 := by rw [List.length_append]; exact hu1.out
              rw [hun1] at e4
              subst e4
              have L := L.appU hi hx (a := a1) (n := u1) (c := d1) (us := xu ++ [(⟨x0, ⟨xt, xk, xv, xst⟩, x5, ⟨yt, yk, yv, yst⟩⟩ : Chg)]) (Kp.grown hg4) (Nx.of hob4) hun1.symm ho4
              clear t hgb hg4 hob4 ho4 hun1 hrs
              try simp only [Act.put]
              try simp only [List.setIfInBounds_toArray]
              try simp only [List.set]
              refine wpAnyH_ready (rs := [15]) (by kernel_rfl) (by simp) ?_
              refine AllReadyH.cons rfl (fun K hK => ?_) (AllReadyH.nil)
              have hi1 : (hs.set j (⟨hid, a1, u1, d1, hma, hmn, hmc, hla, hln, hlc⟩ : TxH))[j]? = some (⟨hid, a1, u1, d1, hma, hmn, hmc, hla, hln, hlc⟩ : TxH) := List.getElem?_set_self hjl
              have hx1 : (xs.set j ⟨xid, xu ++ [(⟨x0, ⟨xt, xk, xv, xst⟩, x5, ⟨yt, yk, yv, yst⟩⟩ : Chg)], xm, xl⟩)[j]? = some ⟨xid, xu ++ [(⟨x0, ⟨xt, xk, xv, xst⟩, x5, ⟨yt, yk, yv, yst⟩⟩ : Chg)], xm, xl⟩ := List.getElem?_set_self hxl
              have t := L.one j _ _ hi1 hx1
              have hcon := with_any W6 hla xl hln hlc kx ky U51 t.ln.symm hlb hHeld t.l
              go_simp
              go_wp2_with (go_at_call 81; refine hcon.mono ?_; rintro e U52 ⟨a2, d2, rfl, gB, o2, kp2, nx2⟩)
              refine hK.out _ _ gB (fun hHeld => ?_)
              clear hK K hcon gB
              have hgb := kp2.block gb hG.lt (fun e => hG.ne t.l (by decide) e.symm)
              have hd := hd.block hgb
              have hG := hG.block hgb
              have L := L.appL hi1 hx1 (a := a2) (n := (withL xl ⟨kx, ky⟩).length) (c := d2) (ls := withL xl ⟨kx, ky⟩) kp2 nx2 rfl o2
              rw [List.set_set, List.set_set] at L
              clear t hgb kp2 nx2 o2 hi1 hx1
              obtain ⟨l2, hl2⟩ : ∃ l2, (withL xl ⟨kx, ky⟩).length = l2 := ⟨_, rfl⟩
              rw [hl2] at L
              simp only [hl2]
              clear hl2
              try simp only [Act.put]
              try simp only [List.setIfInBounds_toArray]
              try simp only [List.set]
              refine wpAnyH_take (i := 16) (v := ?v55) rfl (by kernel_rfl) (by kernel_rfl) (by kernel_rfl) (fun _ _ _ h => h) (Or.inl ⟨by kernel_rfl, ?h55⟩) hHeld ?_
              case h55 => intro u hSw; clear hSw; go_simp; try with_reducible rfl
              try simp only [List.getElem_toArray]
              try simp only [List.getElem_cons_succ]
              try simp only [List.getElem_cons_zero]
              try simp only [Act.put]
              try simp only [List.setIfInBounds_toArray]
              try simp only [List.set]
              refine wpAnyH_take (i := 17) (v := ?v56) rfl (by kernel_rfl) (by kernel_rfl) (by kernel_rfl) (fun _ _ _ h => h) (Or.inl ⟨by kernel_rfl, ?h56⟩) hHeld ?_
              case h56 => intro u hSw; clear hSw; go_simp; try with_reducible rfl
              try simp only [List.getElem_toArray]
              try simp only [List.getElem_cons_succ]
              try simp only [List.getElem_cons_zero]
              try simp only [Act.put]
              try simp only [List.setIfInBounds_toArray]
              try simp only [List.set]
              obtain ⟨⟨z0, z1, z2, z3⟩, zf⟩ := hd j _ hi
              dsimp only at z0 z1 z2 z3
              have f1 := zf 1 (by omega)
              have T1 : Turned gb (gb + 1) U52 (U52.setCell ⟨gb, j * 4 + 1, none⟩ (.slice a1 u1 d1)) := (Turned.refl _ _ U52).setCell (p := ⟨gb, j * 4 + 1, none⟩) (Nat.le_refl _) (Nat.lt_succ_self _) _
              have hd1 : HdC (U52.setCell ⟨gb, j * 4 + 1, none⟩ (.slice a1 u1 d1)) gb (hs.set j (⟨hid, a1, u1, d1, hma, hmn, hmc, hla, hln, hlc⟩ : TxH)) := hd.set hi ⟨by rw [cell_off (by omega)]; exact z0, by simp [go_sem, z1], by rw [cell_off (by omega)]; exact z2, by rw [cell_off (by omega)]; exact z3⟩ (fun p hp => by rw [cell_off (by omega)]) (fun p => by rw [World.frozen?_setCell])
              have L1 := L.setBk T1 hG
              have hG1 := hG.set (j * 4 + 1) (.slice a1 u1 d1)
              refine wpAnyH_ready (rs := [18]) (by kernel_rfl) (by simp) ?_
              refine AllReadyH.cons rfl (fun K hK => ?_) AllReadyH.nil
              go_simp
              refine hK.out _ _ (hHeld.trans (T1.toBelow hHeld.size hg6)) (fun hHeld => ?_)
              clear hK K
              clear T1 z0 z1 z2 z3 zf f1 hd L hG
              generalize (U52.setCell ⟨gb, j * 4 + 1, none⟩ (.slice a1 u1 d1)) = Z1 at hd1 L1 hG1 hHeld ⊢
              try simp only [Act.put]
              try simp only [List.setIfInBounds_toArray]
              try simp only [List.set]
              refine wpAnyH_take (i := 19) (v := ?v57) rfl (by kernel_rfl) (by kernel_rfl) (by kernel_rfl) (fun _ _ _ h => h) (Or.inl ⟨by kernel_rfl, ?h57⟩) hHeld ?_
              case h57 => intro u hSw; clear hSw; go_simp; try with_reducible rfl
              try simp only [List.getElem_toArray]
              try simp only [List.getElem_cons_succ]
              try simp only [List.getElem_cons_zero]
              try simp only [Act.put]
              try simp only [List.setIfInBounds_toArray]
              try simp only [List.set]
              refine wpAnyH_take (i := 20) (v := ?v58) rfl (by kernel_rfl) (by kernel_rfl) (by kernel_rfl) (fun _ _ _ h => h) (Or.inl ⟨by kernel_rfl, ?h58⟩) hHeld ?_
              case h58 => intro u hSw; clear hSw; go_simp; try with_reducible rfl
              try simp only [List.getElem_toArray]
              try simp only [List.getElem_cons_succ]
              try simp only [List.getElem_cons_zero]
              try simp only [Act.put]
              try simp only [List.setIfInBounds_toArray]
              try simp only [List.set]
              have hi1 : (hs.set j (⟨hid, a1, u1, d1, hma, hmn, hmc, hla, hln, hlc⟩ : TxH))[j]? = some (⟨hid, a1, u1, d1, hma, hmn, hmc, hla, hln, hlc⟩ : TxH) := List.getElem?_set_self hjl
              obtain ⟨⟨z0, z1, z2, z3⟩, zf⟩ := hd1 j _ hi1
              dsimp only at z0 z1 z2 z3
              have f3 := zf 3 (by omega)
              have T1 : Turned gb (gb + 1) Z1 (Z1.setCell ⟨gb, j * 4 + 3, none⟩ (.slice a2 l2 d2)) := (Turned.refl _ _ Z1).setCell (p := ⟨gb, j * 4 + 3, none⟩) (Nat.le_refl _) (Nat.lt_succ_self _) _
              have hd2 : HdC (Z1.setCell ⟨gb, j * 4 + 3, none⟩ (.slice a2 l2 d2)) gb ((hs.set j (⟨hid, a1, u1, d1, hma, hmn, hmc, hla, hln, hlc⟩ : TxH)).set j (⟨hid, a1, u1, d1, hma, hmn, hmc, a2, l2, d2⟩ : TxH)) := hd1.set hi1 ⟨by rw [cell_off (by omega)]; exact z0, by rw [cell_off (by omega)]; exact z1, by rw [cell_off (by omega)]; exact z2, by simp [go_sem, z3]⟩ (fun p hp => by rw [cell_off (by omega)]) (fun p => by rw [World.frozen?_setCell])
              rw [List.set_set] at hd2
              have L2 := L1.setBk T1 hG1
              have hG2 := hG1.set (j * 4 + 3) (.slice a2 l2 d2)
              refine wpAnyH_ready (rs := [21]) (by kernel_rfl) (by simp) ?_
              refine AllReadyH.cons rfl (fun K hK => ?_) AllReadyH.nil
              go_simp
              refine hK.out _ _ (hHeld.trans (T1.toBelow hHeld.size hg6)) (fun hHeld => ?_)
              clear hK K
              clear T1 z0 z1 z2 z3 zf f3 hd1 L1 hG1 hi1
              generalize (Z1.setCell ⟨gb, j * 4 + 3, none⟩ (.slice a2 l2 d2)) = Z2 at hd2 L2 hG2 hHeld ⊢
              try simp only [Act.put]
              try simp only [List.setIfInBounds_toArray]
              try simp only [List.set]
              refine wpAnyH_done (by kernel_rfl) ?_ _
              have HOw : Hid (OwA W6.heap.size Z2 (some ⟨gb, 0, none⟩) (xs.set j (⟨xid, xu ++ [(⟨x0, ⟨xt, xk, xv, xst⟩, x5, ⟨yt, yk, yv, yst⟩⟩ : Chg)], xm, withL xl ⟨kx, ky⟩⟩ : TxV))) := L2.own hd2 hg6 (hG2.lists L2)
              have g9 := hHeld
              clear hHeld hd2 L2 hG2
              go_wp2_with fail
              go_meet
              case rel => exact ⟨g9, HOw.out⟩
        · obtain ⟨⟨z0, z1, z2, z3⟩, zf⟩ := hd j _ hi
          dsimp only at z0 z1 z2 z3
          go_simp
          refine hK.out _ _ hHeld (fun hHeld => ?_)
          clear hK K z0 z1 z2 z3 zf
          try simp only [Act.put]
          try simp only [List.setIfInBounds_toArray]
          try simp only [List.set]
          refine wpAnyH_ready (rs := [5, 7]) (by kernel_rfl) (by simp) ?_
          refine AllReadyH.cons rfl (fun K hK => ?_) (AllReadyH.cons rfl (fun K hK => ?_) (AllReadyH.nil))
          · obtain ⟨⟨z0, z1, z2, z3⟩, zf⟩ := hd j _ hi
            dsimp only at z0 z1 z2 z3
            go_simp
            refine hK.out _ _ hHeld (fun hHeld => ?_)
            clear hK K z0 z1 z2 z3 zf
            try simp only [Act.put]
            try simp only [List.setIfInBounds_toArray]
            try simp only [List.set]
            refine wpAnyH_ready (rs := [7]) (by kernel_rfl) (by simp) ?_
            refine AllReadyH.cons rfl (fun K hK => ?_) (AllReadyH.nil)
            go_simp
            go_wp2_with (go_at_call 52; refine (ownChange_any x0 xt xk xv xst x5 yt yk yv yst _ hxb hxa).mono ?_; rintro e U55 ⟨rfl, gg⟩)
            refine hK.out _ _ (hHeld.trans (gg.mono hHeld.size)) (fun hHeld => ?_)
            clear hK K
            have hd := hd.block (gg.block gb hG.lt)
            have hG := hG.block (gg.block gb hG.lt)
            have L := L.below gg
            clear gg
            try simp only [Act.put]
            try simp only [List.setIfInBounds_toArray]
            try simp only [List.set]
            refine wpAnyH_ready (rs := [8]) (by kernel_rfl) (by simp) ?_
            refine AllReadyH.cons rfl (fun K hK => ?_) (AllReadyH.nil)
            have gAl : Below U55.heap.size U55 (U55.alloc (.cells (chE (⟨x0, ⟨xt, xk, xv, xst⟩, x5, ⟨yt, yk, yv, yst⟩⟩ : Chg)).toArray 61)) := by go_grown
            have hrs : Rs chE 10 (U55.alloc (.cells (chE (⟨x0, ⟨xt, xk, xv, xst⟩, x5, ⟨yt, yk, yv, yst⟩⟩ : Chg)).toArray 61)) (some ⟨U55.heap.size, 0, none⟩) [(⟨x0, ⟨xt, xk, xv, xst⟩, x5, ⟨yt, yk, yv, yst⟩⟩ : Chg)] := rs_one (enc := chE) U55 (⟨x0, ⟨xt, xk, xv, xst⟩, x5, ⟨yt, yk, yv, yst⟩⟩ : Chg) 61
            go_simp
            refine hK.out _ _ (hHeld.trans (gAl.mono hHeld.size)) (fun hHeld => ?_)
            clear hK K
            have hd := hd.block (gAl.block gb hG.lt)
            have hG := hG.block (gAl.block gb hG.lt)
            have L := L.below gAl
            clear gAl
            generalize U55.heap.size = cb at hrs ⊢
            have eAl : U55.alloc (.cells (chE (⟨x0, ⟨xt, xk, xv, xst⟩, x5, ⟨yt, yk, yv, yst⟩⟩ : Chg)).toArray 61) = U55.alloc (.cells #[.bool x0, .int .i64 xt, .int .i64 xk, .int .i64 xv, .string xst, .bool x5, .int .i64 yt, .int .i64 yk, .int .i64 yv, .string yst] 61) := rfl
            try rw [eAl] at hrs
            try rw [eAl] at hd
            try rw [eAl] at hG
            try rw [eAl] at L
            try rw [eAl] at hHeld
            clear eAl
            generalize U55.alloc (.cells #[.bool x0, .int .i64 xt, .int .i64 xk, .int .i64 xv, .string xst, .bool x5, .int .i64 yt, .int .i64 yk, .int .i64 yv, .string yst] 61) = U56 at hrs hd hG L hHeld ⊢
            try simp only [Act.put]
            try simp only [List.setIfInBounds_toArray]
            try simp only [List.set]
            refine wpAnyH_ready (rs := [9]) (by kernel_rfl) (by simp) ?_
            refine AllReadyH.cons rfl (fun K hK => ?_) (AllReadyH.nil)
            have t := L.one j _ _ hi hx
            rw [if_pos (by kernel_rfl)]
            refine wp_append_sl elC _ _ _ rfl W6.heap.size (TxH.U (⟨hid, hua, hun, huc, hma, hmn, hmc, hla, hln, hlc⟩ : TxH)) xu [(⟨x0, ⟨xt, xk, xv, xst⟩, x5, ⟨yt, yk, yv, yst⟩⟩ : Chg)] (some ⟨cb, 0, none⟩) 1 1 rfl rfl rfl t.u hrs (show xu.length + 1 ≤ 100000000 by omega) hHeld.size ?_
            intro v4 U57 ho4 hg4 hob4
            refine hK.out _ _ (Below.grown hHeld hg4 hHeld.size (fun q e => (ownsRow_lo t.u q e).1)) (fun hHeld => ?_)
            clear hK K
            have hgb := hg4.block gb hG.lt (fun e => hG.ne t.u (by decide) e.symm)
            have hd := hd.block hgb
            have hG := hG.block hgb
            obtain ⟨a1, d1, e4, _⟩ := SlIn.ofRow chE_len ho4
            have hun1 : (xu ++ [(⟨x0, ⟨xt, xk, xv, xst⟩, x5, ⟨yt, yk, yv, yst⟩⟩ : Chg)]).length = u1 := by rw [List.length_append]; exact hu1.out
            rw [hun1] at e4
            subst e4
            have L := L.appU hi hx (a := a1) (n := u1) (c := d1) (us := xu ++ [(⟨x0, ⟨xt, xk, xv, xst⟩, x5, ⟨yt, yk, yv, yst⟩⟩ : Chg)]) (Kp.grown hg4) (Nx.of hob4) hun1.symm ho4
            clear t hgb hg4 hob4 ho4 hun1 hrs
            try simp only [Act.put]
            try simp only [List.setIfInBounds_toArray]
            try simp only [List.set]
            refine wpAnyH_ready (rs := [15]) (by kernel_rfl) (by simp) ?_
            refine AllReadyH.cons rfl (fun K hK => ?_) (AllReadyH.nil)
            have hi1 : (hs.set j (⟨hid, a1, u1, d1, hma, hmn, hmc, hla, hln, hlc⟩ : TxH))[j]? = some (⟨hid, a1, u1, d1, hma, hmn, hmc, hla, hln, hlc⟩ : TxH) := List.getElem?_set_self hjl
            have hx1 : (xs.set j ⟨xid, xu ++ [(⟨x0, ⟨xt, xk, xv, xst⟩, x5, ⟨yt, yk, yv, yst⟩⟩ : Chg)], xm, xl⟩)[j]? = some ⟨xid, xu ++ [(⟨x0, ⟨xt, xk, xv, xst⟩, x5, ⟨yt, yk, yv, yst⟩⟩ : Chg)], xm, xl⟩ := List.getElem?_set_self hxl
            have t := L.one j _ _ hi1 hx1
            have hcon := with_any W6 hla xl hln hlc kx ky U57 t.ln.symm hlb hHeld t.l
            go_simp
            go_wp2_with (go_at_call 81; refine hcon.mono ?_; rintro e U58 ⟨a2, d2, rfl, gB, o2, kp2, nx2⟩)
            refine hK.out _ _ gB (fun hHeld => ?_)
            clear hK K hcon gB
            have hgb := kp2.block gb hG.lt (fun e => hG.ne t.l (by decide) e.symm)
            have hd := hd.block hgb
            have hG := hG.block hgb
            have L := L.appL hi1 hx1 (a := a2) (n := (withL xl ⟨kx, ky⟩).length) (c := d2) (ls := withL xl ⟨kx, ky⟩) kp2 nx2 rfl o2
            rw [List.set_set, List.set_set] at L
            clear t hgb kp2 nx2 o2 hi1 hx1
            obtain ⟨l2, hl2⟩ : ∃ l2, (withL xl ⟨kx, ky⟩).length = l2 := ⟨_, rfl⟩
            rw [hl2] at L
            simp only [hl2]
            clear hl2
            try simp only [Act.put]
            try simp only [List.setIfInBounds_toArray]
            try simp only [List.set]
            refine wpAnyH_take (i := 16) (v := ?v59) rfl (by kernel_rfl) (by kernel_rfl) (by kernel_rfl) (fun _ _ _ h => h) (Or.inl ⟨by kernel_rfl, ?h59⟩) hHeld ?_
            case h59 => intro u hSw; clear hSw; go_simp; try with_reducible rfl
            try simp only [List.getElem_toArray]
            try simp only [List.getElem_cons_succ]
            try simp only [List.getElem_cons_zero]
            try simp only [Act.put]
            try simp only [List.setIfInBounds_toArray]
            try simp only [List.set]
            refine wpAnyH_take (i := 17) (v := ?v60) rfl (by kernel_rfl) (by kernel_rfl) (by kernel_rfl) (fun _ _ _ h => h) (Or.inl ⟨by kernel_rfl, ?h60⟩) hHeld ?_
            case h60 => intro u hSw; clear hSw; go_simp; try with_reducible rfl
            try simp only [List.getElem_toArray]
            try simp only [List.getElem_cons_succ]
            try simp only [List.getElem_cons_zero]
            try simp only [Act.put]
            try simp only [List.setIfInBounds_toArray]
            try simp only [List.set]
            obtain ⟨⟨z0, z1, z2, z3⟩, zf⟩ := hd j _ hi
            dsimp only at z0 z1 z2 z3
            have f1 := zf 1 (by omega)
            have T1 : Turned gb (gb + 1) U58 (U58.setCell ⟨gb, j * 4 + 1, none⟩ (.slice a1 u1 d1)) := (Turned.refl _ _ U58).setCell (p := ⟨gb, j * 4 + 1, none⟩) (Nat.le_refl _) (Nat.lt_succ_self _) _
            have hd1 : HdC (U58.setCell ⟨gb, j * 4 + 1, none⟩ (.slice a1 u1 d1)) gb (hs.set j (⟨hid, a1, u1, d1, hma, hmn, hmc, hla, hln, hlc⟩ : TxH)) := hd.set hi ⟨by rw [cell_off (by omega)]; exact z0, by simp [go_sem, z1], by rw [cell_off (by omega)]; exact z2, by rw [cell_off (by omega)]; exact z3⟩ (fun p hp => by rw [cell_off (by omega)]) (fun p => by rw [World.frozen?_setCell])
            have L1 := L.setBk T1 hG
            have hG1 := hG.set (j * 4 + 1) (.slice a1 u1 d1)
            refine wpAnyH_ready (rs := [18]) (by kernel_rfl) (by simp) ?_
            refine AllReadyH.cons rfl (fun K hK => ?_) AllReadyH.nil
            go_simp
            refine hK.out _ _ (hHeld.trans (T1.toBelow hHeld.size hg6)) (fun hHeld => ?_)
            clear hK K
            clear T1 z0 z1 z2 z3 zf f1 hd L hG
            generalize (U58.setCell ⟨gb, j * 4 + 1, none⟩ (.slice a1 u1 d1)) = Z1 at hd1 L1 hG1 hHeld ⊢
            try simp only [Act.put]
            try simp only [List.setIfInBounds_toArray]
            try simp only [List.set]
            refine wpAnyH_take (i := 19) (v := ?v61) rfl (by kernel_rfl) (by kernel_rfl) (by kernel_rfl) (fun _ _ _ h => h) (Or.inl ⟨by kernel_rfl, ?h61⟩) hHeld ?_
            case h61 => intro u hSw; clear hSw; go_simp; try with_reducible rfl
            try simp only [List.getElem_toArray]
            try simp only [List.getElem_cons_succ]
            try simp only [List.getElem_cons_zero]
            try simp only [Act.put]
            try simp only [List.setIfInBounds_toArray]
            try simp only [List.set]
            refine wpAnyH_take (i := 20) (v := ?v62) rfl (by kernel_rfl) (by kernel_rfl) (by kernel_rfl) (fun _ _ _ h => h) (Or.inl ⟨by kernel_rfl, ?h62⟩) hHeld ?_
            case h62 => intro u hSw; clear hSw; go_simp; try with_reducible rfl
            try simp only [List.getElem_toArray]
            try simp only [List.getElem_cons_succ]
            try simp only [List.getElem_cons_zero]
            try simp only [Act.put]
            try simp only [List.setIfInBounds_toArray]
            try simp only [List.set]
            have hi1 : (hs.set j (⟨hid, a1, u1, d1, hma, hmn, hmc, hla, hln, hlc⟩ : TxH))[j]? = some (⟨hid, a1, u1, d1, hma, hmn, hmc, hla, hln, hlc⟩ : TxH) := List.getElem?_set_self hjl
            obtain ⟨⟨z0, z1, z2, z3⟩, zf⟩ := hd1 j _ hi1
            dsimp only at z0 z1 z2 z3
            have f3 := zf 3 (by omega)
            have T1 : Turned gb (gb + 1) Z1 (Z1.setCell ⟨gb, j * 4 + 3, none⟩ (.slice a2 l2 d2)) := (Turned.refl _ _ Z1).setCell (p := ⟨gb, j * 4 + 3, none⟩) (Nat.le_refl _) (Nat.lt_succ_self _) _
            have hd2 : HdC (Z1.setCell ⟨gb, j * 4 + 3, none⟩ (.slice a2 l2 d2)) gb ((hs.set j (⟨hid, a1, u1, d1, hma, hmn, hmc, hla, hln, hlc⟩ : TxH)).set j (⟨hid, a1, u1, d1, hma, hmn, hmc, a2, l2, d2⟩ : TxH)) := hd1.set hi1 ⟨by rw [cell_off (by omega)]; exact z0, by rw [cell_off (by omega)]; exact z1, by rw [cell_off (by omega)]; exact z2, by simp [go_sem, z3]⟩ (fun p hp => by rw [cell_off (by omega)]) (fun p => by rw [World.frozen?_setCell])
            rw [List.set_set] at hd2
            have L2 := L1.setBk T1 hG1
            have hG2 := hG1.set (j * 4 + 3) (.slice a2 l2 d2)
            refine wpAnyH_ready (rs := [21]) (by kernel_rfl) (by simp) ?_
            refine AllReadyH.cons rfl (fun K hK => ?_) AllReadyH.nil
            go_simp
            refine hK.out _ _ (hHeld.trans (T1.toBelow hHeld.size hg6)) (fun hHeld => ?_)
            clear hK K
            clear T1 z0 z1 z2 z3 zf f3 hd1 L1 hG1 hi1
            generalize (Z1.setCell ⟨gb, j * 4 + 3, none⟩ (.slice a2 l2 d2)) = Z2 at hd2 L2 hG2 hHeld ⊢
            try simp only [Act.put]
            try simp only [List.setIfInBounds_toArray]
            try simp only [List.set]
            refine wpAnyH_done (by kernel_rfl) ?_ _
            have HOw : Hid (OwA W6.heap.size Z2 (some ⟨gb, 0, none⟩) (xs.set j (⟨xid, xu ++ [(⟨x0, ⟨xt, xk, xv, xst⟩, x5, ⟨yt, yk, yv, yst⟩⟩ : Chg)], xm, withL xl ⟨kx, ky⟩⟩ : TxV))) := L2.own hd2 hg6 (hG2.lists L2)
            have g9 := hHeld
            clear hHeld hd2 L2 hG2
            go_wp2_with fail
            go_meet
            case rel => exact ⟨g9, HOw.out⟩
          · go_simp
            go_wp2_with (go_at_call 52; refine (ownChange_any x0 xt xk xv xst x5 yt yk yv yst _ hxb hxa).mono ?_; rintro e U59 ⟨rfl, gg⟩)
            refine hK.out _ _ (hHeld.trans (gg.mono hHeld.size)) (fun hHeld => ?_)
            clear hK K
            have hd := hd.block (gg.block gb hG.lt)
            have hG := hG.block (gg.block gb hG.lt)
            have L := L.below gg
            clear gg
            try simp only [Act.put]
            try simp only [List.setIfInBounds_toArray]
            try simp only [List.set]
            refine wpAnyH_ready (rs := [5, 8]) (by kernel_rfl) (by simp) ?_
            refine AllReadyH.cons rfl (fun K hK => ?_) (AllReadyH.cons rfl (fun K hK => ?_) (AllReadyH.nil))
            · obtain ⟨⟨z0, z1, z2, z3⟩, zf⟩ := hd j _ hi
              dsimp only at z0 z1 z2 z3
              go_simp
              refine hK.out _ _ hHeld (fun hHeld => ?_)
              clear hK K z0 z1 z2 z3 zf
              try simp only [Act.put]
              try simp only [List.setIfInBounds_toArray]
              try simp only [List.set]
              refine wpAnyH_ready (rs := [8]) (by kernel_rfl) (by simp) ?_
              refine AllReadyH.cons rfl (fun K hK => ?_) (AllReadyH.nil)
              have gAl : Below U59.heap.size U59 (U59.alloc (.cells (chE (⟨x0, ⟨xt, xk, xv, xst⟩, x5, ⟨yt, yk, yv, yst⟩⟩ : Chg)).toArray 61)) := by go_grown
              have hrs : Rs chE 10 (U59.alloc (.cells (chE (⟨x0, ⟨xt, xk, xv, xst⟩, x5, ⟨yt, yk, yv, yst⟩⟩ : Chg)).toArray 61)) (some ⟨U59.heap.size, 0, none⟩) [(⟨x0, ⟨xt, xk, xv, xst⟩, x5, ⟨yt, yk, yv, yst⟩⟩ : Chg)] := rs_one (enc := chE) U59 (⟨x0, ⟨xt, xk, xv, xst⟩, x5, ⟨yt, yk, yv, yst⟩⟩ : Chg) 61
              go_simp
              refine hK.out _ _ (hHeld.trans (gAl.mono hHeld.size)) (fun hHeld => ?_)
              clear hK K
              have hd := hd.block (gAl.block gb hG.lt)
              have hG := hG.block (gAl.block gb hG.lt)
              have L := L.below gAl
              clear gAl
              generalize U59.heap.size = cb at hrs ⊢
              have eAl : U59.alloc (.cells (chE (⟨x0, ⟨xt, xk, xv, xst⟩, x5, ⟨yt, yk, yv, yst⟩⟩ : Chg)).toArray 61) = U59.alloc (.cells #[.bool x0, .int .i64 xt, .int .i64 xk, .int .i64 xv, .string xst, .bool x5, .int .i64 yt, .int .i64 yk, .int .i64 yv, .string yst] 61) := rfl
              try rw [eAl] at hrs
              try rw [eAl] at hd
              try rw [eAl] at hG
              try rw [eAl] at L
              try rw [eAl] at hHeld
              clear eAl
              generalize U59.alloc (.cells #[.bool x0, .int .i64 xt, .int .i64 xk, .int .i64 xv, .string xst, .bool x5, .int .i64 yt, .int .i64 yk, .int .i64 yv, .string yst] 61) = U61 at hrs hd hG L hHeld ⊢
              try simp only [Act.put]
              try simp only [List.setIfInBounds_toArray]
              try simp only [List.set]
              refine wpAnyH_ready (rs := [9]) (by kernel_rfl) (by simp) ?_
              refine AllReadyH.cons rfl (fun K hK => ?_) (AllReadyH.nil)
              have t := L.one j _ _ hi hx
              rw [if_pos (by kernel_rfl)]
              refine wp_append_sl elC _ _ _ rfl W6.heap.size (TxH.U (⟨hid, hua, hun, huc, hma, hmn, hmc, hla, hln, hlc⟩ : TxH)) xu [(⟨x0, ⟨xt, xk, xv, xst⟩, x5, ⟨yt, yk, yv, yst⟩⟩ : Chg)] (some ⟨cb, 0, none⟩) 1 1 rfl rfl rfl t.u hrs (show xu.length + 1 ≤ 100000000 by omega) hHeld.size ?_
              intro v4 U62 ho4 hg4 hob4
              refine hK.out _ _ (Below.grown hHeld hg4 hHeld.size (fun q e => (ownsRow_lo t.u q e).1)) (fun hHeld => ?_)
              clear hK K
              have hgb := hg4.block gb hG.lt (fun e => hG.ne t.u (by decide) e.symm)
              have hd := hd.block hgb
              have hG := hG.block hgb
              obtain ⟨a1, d1, e4, _⟩ := SlIn.ofRow chE_len ho4
              have hun1 : (xu ++ [(⟨x0, ⟨xt, xk, xv, xst⟩, x5, ⟨yt, yk, yv, yst⟩⟩ : Chg)]).length = u1 := by rw [List.length_append]; exact hu1.out
              rw [hun1] at e4
              subst e4
              have L := L.appU hi hx (a := a1) (n := u1) (c := d1) (us := xu ++ [(⟨x0, ⟨xt, xk, xv, xst⟩, x5, ⟨yt, yk, yv, yst⟩⟩ : Chg)]) (Kp.grown hg4) (Nx.of hob4) hun1.symm ho4
              clear t hgb hg4 hob4 ho4 hun1 hrs
              try simp only [Act.put]
              try simp only [List.setIfInBounds_toArray]
              try simp only [List.set]
              refine wpAnyH_ready (rs := [15]) (by kernel_rfl) (by simp) ?_
              refine AllReadyH.cons rfl (fun K hK => ?_) (AllReadyH.nil)
              have hi1 : (hs.set j (⟨hid, a1, u1, d1, hma, hmn, hmc, hla, hln, hlc⟩ : TxH))[j]? = some (⟨hid, a1, u1, d1, hma, hmn, hmc, hla, hln, hlc⟩ : TxH) := List.getElem?_set_self hjl
              have hx1 : (xs.set j ⟨xid, xu ++ [(⟨x0, ⟨xt, xk, xv, xst⟩, x5, ⟨yt, yk, yv, yst⟩⟩ : Chg)], xm, xl⟩)[j]? = some ⟨xid, xu ++ [(⟨x0, ⟨xt, xk, xv, xst⟩, x5, ⟨yt, yk, yv, yst⟩⟩ : Chg)], xm, xl⟩ := List.getElem?_set_self hxl
              have t := L.one j _ _ hi1 hx1
              have hcon := with_any W6 hla xl hln hlc kx ky U62 t.ln.symm hlb hHeld t.l
              go_simp
              go_wp2_with (go_at_call 81; refine hcon.mono ?_; rintro e U63 ⟨a2, d2, rfl, gB, o2, kp2, nx2⟩)
              refine hK.out _ _ gB (fun hHeld => ?_)
              clear hK K hcon gB
              have hgb := kp2.block gb hG.lt (fun e => hG.ne t.l (by decide) e.symm)
              have hd := hd.block hgb
              have hG := hG.block hgb
              have L := L.appL hi1 hx1 (a := a2) (n := (withL xl ⟨kx, ky⟩).length) (c := d2) (ls := withL xl ⟨kx, ky⟩) kp2 nx2 rfl o2
              rw [List.set_set, List.set_set] at L
              clear t hgb kp2 nx2 o2 hi1 hx1
              obtain ⟨l2, hl2⟩ : ∃ l2, (withL xl ⟨kx, ky⟩).length = l2 := ⟨_, rfl⟩
              rw [hl2] at L
              simp only [hl2]
              clear hl2
              try simp only [Act.put]
              try simp only [List.setIfInBounds_toArray]
              try simp only [List.set]
              refine wpAnyH_take (i := 16) (v := ?v63) rfl (by kernel_rfl) (by kernel_rfl) (by kernel_rfl) (fun _ _ _ h => h) (Or.inl ⟨by kernel_rfl, ?h63⟩) hHeld ?_
              case h63 => intro u hSw; clear hSw; go_simp; try with_reducible rfl
              try simp only [List.getElem_toArray]
              try simp only [List.getElem_cons_succ]
              try simp only [List.getElem_cons_zero]
              try simp only [Act.put]
              try simp only [List.setIfInBounds_toArray]
              try simp only [List.set]
              refine wpAnyH_take (i := 17) (v := ?v64) rfl (by kernel_rfl) (by kernel_rfl) (by kernel_rfl) (fun _ _ _ h => h) (Or.inl ⟨by kernel_rfl, ?h64⟩) hHeld ?_
              case h64 => intro u hSw; clear hSw; go_simp; try with_reducible rfl
              try simp only [List.getElem_toArray]
              try simp only [List.getElem_cons_succ]
              try simp only [List.getElem_cons_zero]
              try simp only [Act.put]
              try simp only [List.setIfInBounds_toArray]
              try simp only [List.set]
              obtain ⟨⟨z0, z1, z2, z3⟩, zf⟩ := hd j _ hi
              dsimp only at z0 z1 z2 z3
              have f1 := zf 1 (by omega)
              have T1 : Turned gb (gb + 1) U63 (U63.setCell ⟨gb, j * 4 + 1, none⟩ (.slice a1 u1 d1)) := (Turned.refl _ _ U63).setCell (p := ⟨gb, j * 4 + 1, none⟩) (Nat.le_refl _) (Nat.lt_succ_self _) _
              have hd1 : HdC (U63.setCell ⟨gb, j * 4 + 1, none⟩ (.slice a1 u1 d1)) gb (hs.set j (⟨hid, a1, u1, d1, hma, hmn, hmc, hla, hln, hlc⟩ : TxH)) := hd.set hi ⟨by rw [cell_off (by omega)]; exact z0, by simp [go_sem, z1], by rw [cell_off (by omega)]; exact z2, by rw [cell_off (by omega)]; exact z3⟩ (fun p hp => by rw [cell_off (by omega)]) (fun p => by rw [World.frozen?_setCell])
              have L1 := L.setBk T1 hG
              have hG1 := hG.set (j * 4 + 1) (.slice a1 u1 d1)
              refine wpAnyH_ready (rs := [18]) (by kernel_rfl) (by simp) ?_
              refine AllReadyH.cons rfl (fun K hK => ?_) AllReadyH.nil
              go_simp
              refine hK.out _ _ (hHeld.trans (T1.toBelow hHeld.size hg6)) (fun hHeld => ?_)
              clear hK K
              clear T1 z0 z1 z2 z3 zf f1 hd L hG
              generalize (U63.setCell ⟨gb, j * 4 + 1, none⟩ (.slice a1 u1 d1)) = Z1 at hd1 L1 hG1 hHeld ⊢
              try simp only [Act.put]
              try simp only [List.setIfInBounds_toArray]
              try simp only [List.set]
              refine wpAnyH_take (i := 19) (v := ?v65) rfl (by kernel_rfl) (by kernel_rfl) (by kernel_rfl) (fun _ _ _ h => h) (Or.inl ⟨by kernel_rfl, ?h65⟩) hHeld ?_
              case h65 => intro u hSw; clear hSw; go_simp; try with_reducible rfl
              try simp only [List.getElem_toArray]
              try simp only [List.getElem_cons_succ]
              try simp only [List.getElem_cons_zero]
              try simp only [Act.put]
              try simp only [List.setIfInBounds_toArray]
              try simp only [List.set]
              refine wpAnyH_take (i := 20) (v := ?v66) rfl (by kernel_rfl) (by kernel_rfl) (by kernel_rfl) (fun _ _ _ h => h) (Or.inl ⟨by kernel_rfl, ?h66⟩) hHeld ?_
              case h66 => intro u hSw; clear hSw; go_simp; try with_reducible rfl
              try simp only [List.getElem_toArray]
              try simp only [List.getElem_cons_succ]
              try simp only [List.getElem_cons_zero]
              try simp only [Act.put]
              try simp only [List.setIfInBounds_toArray]
              try simp only [List.set]
              have hi1 : (hs.set j (⟨hid, a1, u1, d1, hma, hmn, hmc, hla, hln, hlc⟩ : TxH))[j]? = some (⟨hid, a1, u1, d1, hma, hmn, hmc, hla, hln, hlc⟩ : TxH) := List.getElem?_set_self hjl
              obtain ⟨⟨z0, z1, z2, z3⟩, zf⟩ := hd1 j _ hi1
              dsimp only at z0 z1 z2 z3
              have f3 := zf 3 (by omega)
              have T1 : Turned gb (gb + 1) Z1 (Z1.setCell ⟨gb, j * 4 + 3, none⟩ (.slice a2 l2 d2)) := (Turned.refl _ _ Z1).setCell (p := ⟨gb, j * 4 + 3, none⟩) (Nat.le_refl _) (Nat.lt_succ_self _) _
              have hd2 : HdC (Z1.setCell ⟨gb, j * 4 + 3, none⟩ (.slice a2 l2 d2)) gb ((hs.set j (⟨hid, a1, u1, d1, hma, hmn, hmc, hla, hln, hlc⟩ : TxH)).set j (⟨hid, a1, u1, d1, hma, hmn, hmc, a2, l2, d2⟩ : TxH)) := hd1.set hi1 ⟨by rw [cell_off (by omega)]; exact z0, by rw [cell_off (by omega)]; exact z1, by rw [cell_off (by omega)]; exact z2, by simp [go_sem, z3]⟩ (fun p hp => by rw [cell_off (by omega)]) (fun p => by rw [World.frozen?_setCell])
              rw [List.set_set] at hd2
              have L2 := L1.setBk T1 hG1
              have hG2 := hG1.set (j * 4 + 3) (.slice a2 l2 d2)
              refine wpAnyH_ready (rs := [21]) (by kernel_rfl) (by simp) ?_
              refine AllReadyH.cons rfl (fun K hK => ?_) AllReadyH.nil
              go_simp
              refine hK.out _ _ (hHeld.trans (T1.toBelow hHeld.size hg6)) (fun hHeld => ?_)
              clear hK K
              clear T1 z0 z1 z2 z3 zf f3 hd1 L1 hG1 hi1
              generalize (Z1.setCell ⟨gb, j * 4 + 3, none⟩ (.slice a2 l2 d2)) = Z2 at hd2 L2 hG2 hHeld ⊢
              try simp only [Act.put]
              try simp only [List.setIfInBounds_toArray]
              try simp only [List.set]
              refine wpAnyH_done (by kernel_rfl) ?_ _
              have HOw : Hid (OwA W6.heap.size Z2 (some ⟨gb, 0, none⟩) (xs.set j (⟨xid, xu ++ [(⟨x0, ⟨xt, xk, xv, xst⟩, x5, ⟨yt, yk, yv, yst⟩⟩ : Chg)], xm, withL xl ⟨kx, ky⟩⟩ : TxV))) := L2.own hd2 hg6 (hG2.lists L2)
              have g9 := hHeld
              clear hHeld hd2 L2 hG2
              go_wp2_with fail
              go_meet
              case rel => exact ⟨g9, HOw.out⟩
            · have gAl : Below U59.heap.size U59 (U59.alloc (.cells (chE (⟨x0, ⟨xt, xk, xv, xst⟩, x5, ⟨yt, yk, yv, yst⟩⟩ : Chg)).toArray 61)) := by go_grown
              have hrs : Rs chE 10 (U59.alloc (.cells (chE (⟨x0, ⟨xt, xk, xv, xst⟩, x5, ⟨yt, yk, yv, yst⟩⟩ : Chg)).toArray 61)) (some ⟨U59.heap.size, 0, none⟩) [(⟨x0, ⟨xt, xk, xv, xst⟩, x5, ⟨yt, yk, yv, yst⟩⟩ : Chg)] := rs_one (enc := chE) U59 (⟨x0, ⟨xt, xk, xv, xst⟩, x5, ⟨yt, yk, yv, yst⟩⟩ : Chg) 61
              go_simp
              refine hK.out _ _ (hHeld.trans (gAl.mono hHeld.size)) (fun hHeld => ?_)
              clear hK K
              have hd := hd.block (gAl.block gb hG.lt)
              have hG := hG.block (gAl.block gb hG.lt)
              have L := L.below gAl
              clear gAl
              generalize U59.heap.size = cb at hrs ⊢
              have eAl : U59.alloc (.cells (chE (⟨x0, ⟨xt, xk, xv, xst⟩, x5, ⟨yt, yk, yv, yst⟩⟩ : Chg)).toArray 61) = U59.alloc (.cells #[.bool x0, .int .i64 xt, .int .i64 xk, .int .i64 xv, .string xst, .bool x5, .int .i64 yt, .int .i64 yk, .int .i64 yv, .string yst] 61) := rfl
              try rw [eAl] at hrs
              try rw [eAl] at hd
              try rw [eAl] at hG
              try rw [eAl] at L
              try rw [eAl] at hHeld
              clear eAl
              generalize U59.alloc (.cells #[.bool x0, .int .i64 xt, .int .i64 xk, .int .i64 xv, .string xst, .bool x5, .int .i64 yt, .int .i64 yk, .int .i64 yv, .string yst] 61) = U64 at hrs hd hG L hHeld ⊢
              try simp only [Act.put]
              try simp only [List.setIfInBounds_toArray]
              try simp only [List.set]
              refine wpAnyH_ready (rs := [5]) (by kernel_rfl) (by simp) ?_
              refine AllReadyH.cons rfl (fun K hK => ?_) (AllReadyH.nil)
              obtain ⟨⟨z0, z1, z2, z3⟩, zf⟩ := hd j _ hi
              dsimp only at z0 z1 z2 z3
              go_simp
              refine hK.out _ _ hHeld (fun hHeld => ?_)
              clear hK K z0 z1 z2 z3 zf
              try simp only [Act.put]
              try simp only [List.setIfInBounds_toArray]
              try simp only [List.set]
              refine wpAnyH_ready (rs := [9]) (by kernel_rfl) (by simp) ?_
              refine AllReadyH.cons rfl (fun K hK => ?_) (AllReadyH.nil)
              have t := L.one j _ _ hi hx
              rw [if_pos (by kernel_rfl)]
              refine wp_append_sl elC _ _ _ rfl W6.heap.size (TxH.U (⟨hid, hua, hun, huc, hma, hmn, hmc, hla, hln, hlc⟩ : TxH)) xu [(⟨x0, ⟨xt, xk, xv, xst⟩, x5, ⟨yt, yk, yv, yst⟩⟩ : Chg)] (some ⟨cb, 0, none⟩) 1 1 rfl rfl rfl t.u hrs (show xu.length + 1 ≤ 100000000 by omega) hHeld.size ?_
              intro v4 U66 ho4 hg4 hob4
              refine hK.out _ _ (Below.grown hHeld hg4 hHeld.size (fun q e => (ownsRow_lo t.u q e).1)) (fun hHeld => ?_)
              clear hK K
              have hgb := hg4.block gb hG.lt (fun e => hG.ne t.u (by decide) e.symm)
              have hd := hd.block hgb
              have hG := hG.block hgb
              obtain ⟨a1, d1, e4, _⟩ := SlIn.ofRow chE_len ho4
              have hun1 : (xu ++ [(⟨x0, ⟨xt, xk, xv, xst⟩, x5, ⟨yt, yk, yv, yst⟩⟩ : Chg)]).length = u1 := by rw [List.length_append]; exact hu1.out
              rw [hun1] at e4
              subst e4
              have L := L.appU hi hx (a := a1) (n := u1) (c := d1) (us := xu ++ [(⟨x0, ⟨xt, xk, xv, xst⟩, x5, ⟨yt, yk, yv, yst⟩⟩ : Chg)]) (Kp.grown hg4) (Nx.of hob4) hun1.symm ho4
              clear t hgb hg4 hob4 ho4 hun1 hrs
              try simp only [Act.put]
              try simp only [List.setIfInBounds_toArray]
              try simp only [List.set]
              refine wpAnyH_ready (rs := [15]) (by kernel_rfl) (by simp) ?_
              refine AllReadyH.cons rfl (fun K hK => ?_) (AllReadyH.nil)
              have hi1 : (hs.set j (⟨hid, a1, u1, d1, hma, hmn, hmc, hla, hln, hlc⟩ : TxH))[j]? = some (⟨hid, a1, u1, d1, hma, hmn, hmc, hla, hln, hlc⟩ : TxH) := List.getElem?_set_self hjl
              have hx1 : (xs.set j ⟨xid, xu ++ [(⟨x0, ⟨xt, xk, xv, xst⟩, x5, ⟨yt, yk, yv, yst⟩⟩ : Chg)], xm, xl⟩)[j]? = some ⟨xid, xu ++ [(⟨x0, ⟨xt, xk, xv, xst⟩, x5, ⟨yt, yk, yv, yst⟩⟩ : Chg)], xm, xl⟩ := List.getElem?_set_self hxl
              have t := L.one j _ _ hi1 hx1
              have hcon := with_any W6 hla xl hln hlc kx ky U66 t.ln.symm hlb hHeld t.l
              go_simp
              go_wp2_with (go_at_call 81; refine hcon.mono ?_; rintro e U67 ⟨a2, d2, rfl, gB, o2, kp2, nx2⟩)
              refine hK.out _ _ gB (fun hHeld => ?_)
              clear hK K hcon gB
              have hgb := kp2.block gb hG.lt (fun e => hG.ne t.l (by decide) e.symm)
              have hd := hd.block hgb
              have hG := hG.block hgb
              have L := L.appL hi1 hx1 (a := a2) (n := (withL xl ⟨kx, ky⟩).length) (c := d2) (ls := withL xl ⟨kx, ky⟩) kp2 nx2 rfl o2
              rw [List.set_set, List.set_set] at L
              clear t hgb kp2 nx2 o2 hi1 hx1
              obtain ⟨l2, hl2⟩ : ∃ l2, (withL xl ⟨kx, ky⟩).length = l2 := ⟨_, rfl⟩
              rw [hl2] at L
              simp only [hl2]
              clear hl2
              try simp only [Act.put]
              try simp only [List.setIfInBounds_toArray]
              try simp only [List.set]
              refine wpAnyH_take (i := 16) (v := ?v67) rfl (by kernel_rfl) (by kernel_rfl) (by kernel_rfl) (fun _ _ _ h => h) (Or.inl ⟨by kernel_rfl, ?h67⟩) hHeld ?_
              case h67 => intro u hSw; clear hSw; go_simp; try with_reducible rfl
              try simp only [List.getElem_toArray]
              try simp only [List.getElem_cons_succ]
              try simp only [List.getElem_cons_zero]
              try simp only [Act.put]
              try simp only [List.setIfInBounds_toArray]
              try simp only [List.set]
              refine wpAnyH_take (i := 17) (v := ?v68) rfl (by kernel_rfl) (by kernel_rfl) (by kernel_rfl) (fun _ _ _ h => h) (Or.inl ⟨by kernel_rfl, ?h68⟩) hHeld ?_
              case h68 => intro u hSw; clear hSw; go_simp; try with_reducible rfl
              try simp only [List.getElem_toArray]
              try simp only [List.getElem_cons_succ]
              try simp only [List.getElem_cons_zero]
              try simp only [Act.put]
              try simp only [List.setIfInBounds_toArray]
              try simp only [List.set]
              obtain ⟨⟨z0, z1, z2, z3⟩, zf⟩ := hd j _ hi
              dsimp only at z0 z1 z2 z3
              have f1 := zf 1 (by omega)
              have T1 : Turned gb (gb + 1) U67 (U67.setCell ⟨gb, j * 4 + 1, none⟩ (.slice a1 u1 d1)) := (Turned.refl _ _ U67).setCell (p := ⟨gb, j * 4 + 1, none⟩) (Nat.le_refl _) (Nat.lt_succ_self _) _
              have hd1 : HdC (U67.setCell ⟨gb, j * 4 + 1, none⟩ (.slice a1 u1 d1)) gb (hs.set j (⟨hid, a1, u1, d1, hma, hmn, hmc, hla, hln, hlc⟩ : TxH)) := hd.set hi ⟨by rw [cell_off (by omega)]; exact z0, by simp [go_sem, z1], by rw [cell_off (by omega)]; exact z2, by rw [cell_off (by omega)]; exact z3⟩ (fun p hp => by rw [cell_off (by omega)]) (fun p => by rw [World.frozen?_setCell])
              have L1 := L.setBk T1 hG
              have hG1 := hG.set (j * 4 + 1) (.slice a1 u1 d1)
              refine wpAnyH_ready (rs := [18]) (by kernel_rfl) (by simp) ?_
              refine AllReadyH.cons rfl (fun K hK => ?_) AllReadyH.nil
              go_simp
              refine hK.out _ _ (hHeld.trans (T1.toBelow hHeld.size hg6)) (fun hHeld => ?_)
              clear hK K
              clear T1 z0 z1 z2 z3 zf f1 hd L hG
              generalize (U67.setCell ⟨gb, j * 4 + 1, none⟩ (.slice a1 u1 d1)) = Z1 at hd1 L1 hG1 hHeld ⊢
              try simp only [Act.put]
              try simp only [List.setIfInBounds_toArray]
              try simp only [List.set]
              refine wpAnyH_take (i := 19) (v := ?v69) rfl (by kernel_rfl) (by kernel_rfl) (by kernel_rfl) (fun _ _ _ h => h) (Or.inl ⟨by kernel_rfl, ?h69⟩) hHeld ?_
              case h69 => intro u hSw; clear hSw; go_simp; try with_reducible rfl
              try simp only [List.getElem_toArray]
              try simp only [List.getElem_cons_succ]
              try simp only [List.getElem_cons_zero]
              try simp only [Act.put]
              try simp only [List.setIfInBounds_toArray]
              try simp only [List.set]
              refine wpAnyH_take (i := 20) (v := ?v70) rfl (by kernel_rfl) (by kernel_rfl) (by kernel_rfl) (fun _ _ _ h => h) (Or.inl ⟨by kernel_rfl, ?h70⟩) hHeld ?_
              case h70 => intro u hSw; clear hSw; go_simp; try with_reducible rfl
              try simp only [List.getElem_toArray]
              try simp only [List.getElem_cons_succ]
              try simp only [List.getElem_cons_zero]
              try simp only [Act.put]
              try simp only [List.setIfInBounds_toArray]
              try simp only [List.set]
              have hi1 : (hs.set j (⟨hid, a1, u1, d1, hma, hmn, hmc, hla, hln, hlc⟩ : TxH))[j]? = some (⟨hid, a1, u1, d1, hma, hmn, hmc, hla, hln, hlc⟩ : TxH) := List.getElem?_set_self hjl
              obtain ⟨⟨z0, z1, z2, z3⟩, zf⟩ := hd1 j _ hi1
              dsimp only at z0 z1 z2 z3
              have f3 := zf 3 (by omega)
              have T1 : Turned gb (gb + 1) Z1 (Z1.setCell ⟨gb, j * 4 + 3, none⟩ (.slice a2 l2 d2)) := (Turned.refl _ _ Z1).setCell (p := ⟨gb, j * 4 + 3, none⟩) (Nat.le_refl _) (Nat.lt_succ_self _) _
              have hd2 : HdC (Z1.setCell ⟨gb, j * 4 + 3, none⟩ (.slice a2 l2 d2)) gb ((hs.set j (⟨hid, a1, u1, d1, hma, hmn, hmc, hla, hln, hlc⟩ : TxH)).set j (⟨hid, a1, u1, d1, hma, hmn, hmc, a2, l2, d2⟩ : TxH)) := hd1.set hi1 ⟨by rw [cell_off (by omega)]; exact z0, by rw [cell_off (by omega)]; exact z1, by rw [cell_off (by omega)]; exact z2, by simp [go_sem, z3]⟩ (fun p hp => by rw [cell_off (by omega)]) (fun p => by rw [World.frozen?_setCell])
              rw [List.set_set] at hd2
              have L2 := L1.setBk T1 hG1
              have hG2 := hG1.set (j * 4 + 3) (.slice a2 l2 d2)
              refine wpAnyH_ready (rs := [21]) (by kernel_rfl) (by simp) ?_
              refine AllReadyH.cons rfl (fun K hK => ?_) AllReadyH.nil
              go_simp
              refine hK.out _ _ (hHeld.trans (T1.toBelow hHeld.size hg6)) (fun hHeld => ?_)
              clear hK K
              clear T1 z0 z1 z2 z3 zf f3 hd1 L1 hG1 hi1
              generalize (Z1.setCell ⟨gb, j * 4 + 3, none⟩ (.slice a2 l2 d2)) = Z2 at hd2 L2 hG2 hHeld ⊢
              try simp only [Act.put]
              try simp only [List.setIfInBounds_toArray]
              try simp only [List.set]
              refine wpAnyH_done (by kernel_rfl) ?_ _
              have HOw : Hid (OwA W6.heap.size Z2 (some ⟨gb, 0, none⟩) (xs.set j (⟨xid, xu ++ [(⟨x0, ⟨xt, xk, xv, xst⟩, x5, ⟨yt, yk, yv, yst⟩⟩ : Chg)], xm, withL xl ⟨kx, ky⟩⟩ : TxV))) := L2.own hd2 hg6 (hG2.lists L2)
              have g9 := hHeld
              clear hHeld hd2 L2 hG2
              go_wp2_with fail
              go_meet
              case rel => exact ⟨g9, HOw.out⟩
      case rest =>
        obtain ⟨g8, hOwA⟩ := hcut
        have HOA : Hid (OwA W6.heap.size wc (some ⟨gb, 0, none⟩) (xs.set j (⟨xid, xu ++ [(⟨x0, ⟨xt, xk, xv, xst⟩, x5, ⟨yt, yk, yv, yst⟩⟩ : Chg)], xm, withL xl ⟨kx, ky⟩⟩ : TxV))) := hOwA
        obtain ⟨o0, o1, of0, of1⟩ := HOx6.out wc g8
        have hrr : Hid (rr = xs.set j (⟨xid, xu ++ [(⟨x0, ⟨xt, xk, xv, xst⟩, x5, ⟨yt, yk, yv, yst⟩⟩ : Chg)], xm, withL xl ⟨kx, ky⟩⟩ : TxV)) := HRR.out
        have hrl : Hid (rr.length = n) := by show _ = _; rw [hrr.out, List.length_set]; exact HN.out
        have T : Turned ob (ob + 1) wc ((wc.setCell ⟨ob, 0, none⟩ (.int .i64 0)).setCell ⟨ob, 1, none⟩ (.slice (some ⟨gb, 0, none⟩) n c7)) := ((Turned.refl _ _ wc).setCell (p := ⟨ob, 0, none⟩) (Nat.le_refl _) (Nat.lt_succ_self _) _).setCell (p := ⟨ob, 1, none⟩) (Nat.le_refl _) (Nat.lt_succ_self _) _
        have HTt : Hid (Turned ob (ob + 1) wc ((wc.setCell ⟨ob, 0, none⟩ (.int .i64 0)).setCell ⟨ob, 1, none⟩ (.slice (some ⟨gb, 0, none⟩) n c7))) := T
        have g9 := g.trans (g8.mono g.size)
        clear T hOwA HD HLs HI hG
        go_wp2_with fail
        refine bodyPost_ret (v := .agg #[.int .i64 0, .slice (some ⟨gb, 0, none⟩) n c7]) (by simp [results, Try.results28, go_sem, *]) rfl ?_
        rw [HX.out.1, HX.out.2]
        exact ⟨some ⟨gb, 0, none⟩, c7, by rw [hrl.out], below_s2 g9 hob1 _ _, by rw [hrr.out]; exact (HOA.out.low HTt.out lO6).mono g.size⟩

end Go.Proofs.Ytmboclfgldgefaa
