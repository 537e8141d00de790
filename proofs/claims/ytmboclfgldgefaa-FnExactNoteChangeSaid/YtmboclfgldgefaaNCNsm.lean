/-
  The model's NoteChange.
-/
import Derived.Test.YtmboclfgldgefaaNCNsa
import Derived.Test.YtmboclfgldgefaaNCFcs

namespace Go.Proofs.Ytmboclfgldgefaa
open Go.RowKit Go.Maps
set_option linter.unusedVariables false
set_option maxRecDepth 20000

set_option maxHeartbeats 16000000 in
theorem specNoteChange_any (a : Option Addr) (xs : List TxV) (n c : Nat) (tx : Int) (x0 : Bool) (xt xk xv : Int) (xst : ByteArray) (x5 : Bool) (yt yk yv : Int) (yst : ByteArray) (w : World) (hn : xs.length = n) (hm : n ≤ 1048576) (hs : ∀ x ∈ xs, TxOk 1048576 x) (hr : TxRc w a xs) (hxb : xst.size ≤ 1048576) (hxa : yst.size ≤ 1048576) :
    Calls Try.prog 26 #[.slice a n c, .int .i64 tx, .agg #[.bool x0, .int .i64 xt, .int .i64 xk, .int .i64 xv, .string xst, .bool x5, .int .i64 yt, .int .i64 yk, .int .i64 yv, .string yst]] w fun e w' => NcPost (ncQ xs tx (⟨x0, ⟨xt, xk, xv, xst⟩, x5, ⟨yt, yk, yv, yst⟩⟩ : Chg)) (ncL xs tx (⟨x0, ⟨xt, xk, xv, xst⟩, x5, ⟨yt, yk, yv, yst⟩⟩ : Chg)) w e w' := by
  have HN : Hid (xs.length = n) := hn
  have HR : Hid (∀ V, Below w.heap.size w V → TxRd V a xs) := fun V hV => hr.rd.below hV (Nat.le_refl _)
  have HS : Hid (∀ x ∈ xs, TxOk 1048576 x) := hs
  have HF : Hid (∀ V, Below w.heap.size w V → Calls Try.prog 61 #[.slice a n c] V fun e w' => e = .returned (.int .i64 (txsQ xs)) ∧ Below V.heap.size V w') := fun V hV => l10Fault_any a xs n c V hn hm hs (hr.rd.below hV (Nat.le_refl _))
  have HP : Hid (∀ V, Below w.heap.size w V → Calls Try.prog 69 #[.slice a n c, .int .i64 tx] V fun e w' => e = .returned (.int .i64 (atI xs tx)) ∧ Below V.heap.size V w') := fun V hV => l10At_any a xs n c tx V hn hm (hr.rd.below hV (Nat.le_refl _))
  have HL : Hid (∀ V, Below w.heap.size w V → Calls Try.prog 72 #[.slice a n c, .agg #[.int .i64 (kT (⟨x0, ⟨xt, xk, xv, xst⟩, x5, ⟨yt, yk, yv, yst⟩⟩ : Chg)), .int .i64 (kK (⟨x0, ⟨xt, xk, xv, xst⟩, x5, ⟨yt, yk, yv, yst⟩⟩ : Chg))]] V fun e w' => e = .returned (.int .i64 (lkr xs (ncK (⟨x0, ⟨xt, xk, xv, xst⟩, x5, ⟨yt, yk, yv, yst⟩⟩ : Chg)))) ∧ Below V.heap.size V w') := fun V hV => l10Lock_any a xs n c _ _ V hn hm hs (hr.rd.below hV (Nat.le_refl _))
  have HTb : Hid (∀ V, Below w.heap.size w V → txsQ xs = 0 → Calls Try.prog 73 #[.slice a n c] V fun e w' => e = .returned (.int .i64 (cntU xs)) ∧ w' = V) := fun V hV h0 => l10Count_any a xs n c V hn (by rw [← hn]; exact (txs_sound h0).1) hs (hr.rd.below hV (Nat.le_refl _))
  have HNt : Hid (∀ (V : World) (j : Nat) (xid : Int) (xu : List Chg) (xm : List Int) (xl : List K2), Below w.heap.size w V → xs[j]? = some ⟨xid, xu, xm, xl⟩ → Calls Try.prog 75 #[.slice a n c, .int .i64 j, .agg #[.bool x0, .int .i64 xt, .int .i64 xk, .int .i64 xv, .string xst, .bool x5, .int .i64 yt, .int .i64 yk, .int .i64 yv, .string yst]] V fun e w' => ∃ g c', e = .returned (.slice (some ⟨g, 0, none⟩) n c') ∧ Below V.heap.size V w' ∧ OwA V.heap.size w' (some ⟨g, 0, none⟩) (xs.set j ⟨xid, xu ++ [(⟨x0, ⟨xt, xk, xv, xst⟩, x5, ⟨yt, yk, yv, yst⟩⟩ : Chg)], xm, withL xl (ncK (⟨x0, ⟨xt, xk, xv, xst⟩, x5, ⟨yt, yk, yv, yst⟩⟩ : Chg))⟩)) := fun V j xid xu xm xl hV hx => l10Note_any a xs n c j xid xu xm xl x0 xt xk xv xst x5 yt yk yv yst V hn hm hs (hr.rd.below hV (Nat.le_refl _)) hx
  have hml : ∀ {k : Nat}, k ≤ 1048576 → k ≤ maxLen := fun {k} h => by unfold maxLen; omega
  have HAl : Hid (∀ (V : World) (b : Nat), ChC V b 0 (⟨x0, ⟨xt, xk, xv, xst⟩, x5, ⟨yt, yk, yv, yst⟩⟩ : Chg) → Calls Try.prog 70 #[.pointer (some ⟨b, 0, none⟩)] V fun e w' => e = .returned (.int .i64 (alQ (⟨x0, ⟨xt, xk, xv, xst⟩, x5, ⟨yt, yk, yv, yst⟩⟩ : Chg))) ∧ Below V.heap.size V w') := fun V b h => (l9Change_any b 0 (⟨x0, ⟨xt, xk, xv, xst⟩, x5, ⟨yt, yk, yv, yst⟩⟩ : Chg) V h (hml hxb) (hml hxa)).mono fun e w' ⟨h1, m, h2⟩ => ⟨h1, by rw [h2]; exact below_draws (Below.refl _ _) m⟩
  have HCk : Hid (∀ (V : World) (b : Nat), ChC V b 0 (⟨x0, ⟨xt, xk, xv, xst⟩, x5, ⟨yt, yk, yv, yst⟩⟩ : Chg) → Calls Try.prog 71 #[.pointer (some ⟨b, 0, none⟩)] V fun e w' => e = .returned (.agg #[.int .i64 (kT (⟨x0, ⟨xt, xk, xv, xst⟩, x5, ⟨yt, yk, yv, yst⟩⟩ : Chg)), .int .i64 (kK (⟨x0, ⟨xt, xk, xv, xst⟩, x5, ⟨yt, yk, yv, yst⟩⟩ : Chg))]) ∧ Below V.heap.size V w') := fun V b h => l10KeyOf_any b 0 (⟨x0, ⟨xt, xk, xv, xst⟩, x5, ⟨yt, yk, yv, yst⟩⟩ : Chg) V h
  have HE : Hid (ncQ xs tx (⟨x0, ⟨xt, xk, xv, xst⟩, x5, ⟨yt, yk, yv, yst⟩⟩ : Chg) = if txsQ xs = 0 then (if atI xs tx < 0 then 4 else if alQ (⟨x0, ⟨xt, xk, xv, xst⟩, x5, ⟨yt, yk, yv, yst⟩⟩ : Chg) = 0 then (if lkr xs (ncK (⟨x0, ⟨xt, xk, xv, xst⟩, x5, ⟨yt, yk, yv, yst⟩⟩ : Chg)) ≠ 0 ∧ lkr xs (ncK (⟨x0, ⟨xt, xk, xv, xst⟩, x5, ⟨yt, yk, yv, yst⟩⟩ : Chg)) ≠ tx then 7 else if ncB xs tx (⟨x0, ⟨xt, xk, xv, xst⟩, x5, ⟨yt, yk, yv, yst⟩⟩ : Chg) = true then 2 else 0) else alQ (⟨x0, ⟨xt, xk, xv, xst⟩, x5, ⟨yt, yk, yv, yst⟩⟩ : Chg)) else txsQ xs) := rfl
  have HLs : Hid (ncL xs tx (⟨x0, ⟨xt, xk, xv, xst⟩, x5, ⟨yt, yk, yv, yst⟩⟩ : Chg) = if ncQ xs tx (⟨x0, ⟨xt, xk, xv, xst⟩, x5, ⟨yt, yk, yv, yst⟩⟩ : Chg) = 0 then ncR xs tx (⟨x0, ⟨xt, xk, xv, xst⟩, x5, ⟨yt, yk, yv, yst⟩⟩ : Chg) else []) := rfl
  have HAt : Hid (¬ atI xs tx < 0 → ∃ j : Nat, atI xs tx = (j : Int) ∧ xs[j]? = some (ncX xs tx) ∧ (ncX xs tx).id = tx) := nc_at
  have HNB : Hid (txsQ xs = 0 → ¬ atI xs tx < 0 → ¬ (lkr xs (ncK (⟨x0, ⟨xt, xk, xv, xst⟩, x5, ⟨yt, yk, yv, yst⟩⟩ : Chg)) ≠ 0 ∧ lkr xs (ncK (⟨x0, ⟨xt, xk, xv, xst⟩, x5, ⟨yt, yk, yv, yst⟩⟩ : Chg)) ≠ tx) → (decide (12 ≤ cntU xs) || (decide (12 ≤ (ncX xs tx).l.length) && !hasK (ncX xs tx).l (ncK (⟨x0, ⟨xt, xk, xv, xst⟩, x5, ⟨yt, yk, yv, yst⟩⟩ : Chg)))) = ncB xs tx (⟨x0, ⟨xt, xk, xv, xst⟩, x5, ⟨yt, yk, yv, yst⟩⟩ : Chg)) := nc_cond
  have HRR : Hid (ncR xs tx (⟨x0, ⟨xt, xk, xv, xst⟩, x5, ⟨yt, yk, yv, yst⟩⟩ : Chg) = xs.set (atI xs tx).toNat ⟨(ncX xs tx).id, (ncX xs tx).u ++ [(⟨x0, ⟨xt, xk, xv, xst⟩, x5, ⟨yt, yk, yv, yst⟩⟩ : Chg)], (ncX xs tx).m, withL (ncX xs tx).l (ncK (⟨x0, ⟨xt, xk, xv, xst⟩, x5, ⟨yt, yk, yv, yst⟩⟩ : Chg))⟩) := rfl
  have HNK : Hid (ncK (⟨x0, ⟨xt, xk, xv, xst⟩, x5, ⟨yt, yk, yv, yst⟩⟩ : Chg) = ⟨kT (⟨x0, ⟨xt, xk, xv, xst⟩, x5, ⟨yt, yk, yv, yst⟩⟩ : Chg), kK (⟨x0, ⟨xt, xk, xv, xst⟩, x5, ⟨yt, yk, yv, yst⟩⟩ : Chg)⟩) := rfl
  obtain ⟨Q, hQ⟩ : ∃ Q, ncQ xs tx (⟨x0, ⟨xt, xk, xv, xst⟩, x5, ⟨yt, yk, yv, yst⟩⟩ : Chg) = Q := ⟨_, rfl⟩
  obtain ⟨L0, hL0⟩ : ∃ L0, ncL xs tx (⟨x0, ⟨xt, xk, xv, xst⟩, x5, ⟨yt, yk, yv, yst⟩⟩ : Chg) = L0 := ⟨_, rfl⟩
  rw [hQ] at HE HLs
  rw [hL0] at HLs
  rw [hQ, hL0]
  clear hn hm hs hr hQ hL0 hml
  generalize lkr xs (ncK (⟨x0, ⟨xt, xk, xv, xst⟩, x5, ⟨yt, yk, yv, yst⟩⟩ : Chg)) = wh at HL HE HNB
  generalize txsQ xs = tq at HF HE HTb HNB
  generalize atI xs tx = ai at HP HE HAt HRR HNB
  generalize alQ (⟨x0, ⟨xt, xk, xv, xst⟩, x5, ⟨yt, yk, yv, yst⟩⟩ : Chg) = aq at HAl HE
  generalize cntU xs = cu at HTb HNB
  generalize ncB xs tx (⟨x0, ⟨xt, xk, xv, xst⟩, x5, ⟨yt, yk, yv, yst⟩⟩ : Chg) = nb at HE HNB
  generalize ncR xs tx (⟨x0, ⟨xt, xk, xv, xst⟩, x5, ⟨yt, yk, yv, yst⟩⟩ : Chg) = rr at HLs HRR
  generalize ncX xs tx = xx at HAt HNB HRR
  generalize ncK (⟨x0, ⟨xt, xk, xv, xst⟩, x5, ⟨yt, yk, yv, yst⟩⟩ : Chg) = nk at HNK HNB HRR HNt
  obtain ⟨kx, hkx⟩ : ∃ kx, kT (⟨x0, ⟨xt, xk, xv, xst⟩, x5, ⟨yt, yk, yv, yst⟩⟩ : Chg) = kx := ⟨_, rfl⟩
  obtain ⟨ky, hky⟩ : ∃ ky, kK (⟨x0, ⟨xt, xk, xv, xst⟩, x5, ⟨yt, yk, yv, yst⟩⟩ : Chg) = ky := ⟨_, rfl⟩
  rw [hkx, hky] at HL HCk HNK
  clear hkx hky
  go_enter Try.func26, Try.ntmps26
  go_upto_region 1 with (fail)
  generalize hY : World.alloc _ _ = Y
  have g : Below w.heap.size w Y := by rw [← hY]; go_grown
  have Z : ChC Y w.heap.size 0 (⟨x0, ⟨xt, xk, xv, xst⟩, x5, ⟨yt, yk, yv, yst⟩⟩ : Chg) := by rw [← hY]; exact ⟨by simp [go_sem], by simp [go_sem], by simp [go_sem], by simp [go_sem], by simp [go_sem], by simp [go_sem], by simp [go_sem], by simp [go_sem], by simp [go_sem], by simp [go_sem]⟩
  have hO : Nr2 Y (w.heap.size + 1) := by rw [← hY]; exact ⟨by simp [go_sem], by simp [go_sem], by simp [go_sem], by simp [go_sem]⟩
  clear hY
  obtain ⟨kb, hkb⟩ : ∃ kb, w.heap.size = kb := ⟨_, rfl⟩
  obtain ⟨ob, hob⟩ : ∃ ob, kb + 1 = ob := ⟨_, rfl⟩
  have hob1 : w.heap.size ≤ ob := by omega
  rw [hkb] at Z hO
  rw [hob] at hO
  simp only [hkb]
  try simp only [hob]
  have HKB : Hid (w.heap.size = kb) := hkb
  clear hkb hob
  have lZ := Z.lt
  have lO := hO.lt
  have HBx : Hid (∀ V, Below Y.heap.size Y V → ChC V kb 0 (⟨x0, ⟨xt, xk, xv, xst⟩, x5, ⟨yt, yk, yv, yst⟩⟩ : Chg)) := fun V hV => Z.below hV lZ
  have HOx : Hid (∀ V, Below Y.heap.size Y V → Nr2 V ob) := fun V hV => hO.below hV lO
  clear Z lZ
  go_wp2_with fail
  refine (HF.out Y g).mono ?_
  rintro e w2 ⟨rfl, gy⟩
  have hO := HOx.out w2 gy
  have g := g.trans (gy.mono g.size)
  by_cases h0 : tq = 0
  case neg =>
    have d0 : (tq != 0) = true := by simpa using h0
    have HX : Hid (Q = tq ∧ L0 = []) := by
      have h1 : Q = tq := by rw [HE.out, if_neg h0]
      exact ⟨h1, by rw [HLs.out, if_neg (by rw [h1]; exact h0)]⟩
    clear HE
    obtain ⟨o0, o1, of0, of1⟩ := hO
    go_wp2_with fail
    refine bodyPost_ret (v := .agg #[.int .i64 tq, .slice none 0 0]) (by simp [results, Try.results26, go_sem, *]) rfl ?_
    rw [HX.out.1, HX.out.2]
    exact nc_bad (below_s2 g hob1 _ _)
  have d0 : (tq != 0) = false := by simp [h0]
  have HT0 : Hid (tq = 0) := h0
  have HE1 : Hid (Q = if ai < 0 then 4 else if aq = 0 then (if wh ≠ 0 ∧ wh ≠ tx then 7 else if nb = true then 2 else 0) else aq) := by have h := HE.out; show _ = _; rw [if_pos h0] at h; exact h
  clear HE h0 hO
  go_wp2_with fail
  refine (HP.out _ g).mono ?_
  rintro e w3 ⟨rfl, g3⟩
  have gy := gy.trans (g3.mono gy.size)
  have hO := HOx.out w3 gy
  have g := g.trans (g3.mono g.size)
  clear g3
  by_cases h1 : ai < 0
  case pos =>
    have HX : Hid (Q = 4 ∧ L0 = []) := by
      have h1 : Q = 4 := by rw [HE1.out, if_pos h1]
      exact ⟨h1, by rw [HLs.out, if_neg (by rw [h1]; decide)]⟩
    clear HE1
    obtain ⟨o0, o1, of0, of1⟩ := hO
    go_wp2_with fail
    refine bodyPost_ret (v := .agg #[.int .i64 4, .slice none 0 0]) (by simp [results, Try.results26, go_sem, *]) rfl ?_
    rw [HX.out.1, HX.out.2]
    exact nc_bad (below_s2 g hob1 _ _)
  have HE2 : Hid (Q = if aq = 0 then (if wh ≠ 0 ∧ wh ≠ tx then 7 else if nb = true then 2 else 0) else aq) := by have h := HE1.out; show _ = _; rw [if_neg h1] at h; exact h
  have HNBx : Hid (¬ (wh ≠ 0 ∧ wh ≠ tx) → (decide (12 ≤ cu) || (decide (12 ≤ xx.l.length) && !hasK xx.l nk)) = nb) := HNB.out HT0.out (by omega)
  obtain ⟨j, hj, hx, hxid⟩ := HAt.out (by omega)
  subst hj
  have hj0 : decide ((j : Int) < 0) = false := by simp
  have HXx : Hid (xs[j]? = some xx) := hx
  have hxl : j < xs.length := (List.getElem?_eq_some_iff.1 hx).1
  have hjn : j < n := by rw [← HN.out]; exact hxl
  clear HE1 hO HAt hx hxid HNB
  have hal := HAl.out w3 kb (HBx.out w3 gy)
  go_wp2_with fail
  refine hal.mono ?_
  rintro e w4 ⟨rfl, g3⟩
  have gy := gy.trans (g3.mono gy.size)
  have hO := HOx.out w4 gy
  have g := g.trans (g3.mono g.size)
  clear g3 hal
  by_cases h2 : aq = 0
  case neg =>
    have d0' : (aq != 0) = true := by simpa using h2
    have HX : Hid (Q = aq ∧ L0 = []) := by
      have h1 : Q = aq := by rw [HE2.out, if_neg h2]
      exact ⟨h1, by rw [HLs.out, if_neg (by rw [h1]; exact h2)]⟩
    clear HE2
    obtain ⟨o0, o1, of0, of1⟩ := hO
    go_wp2_with fail
    refine bodyPost_ret (v := .agg #[.int .i64 aq, .slice none 0 0]) (by simp [results, Try.results26, go_sem, *]) rfl ?_
    rw [HX.out.1, HX.out.2]
    exact nc_bad (below_s2 g hob1 _ _)
  have d2' : (aq != 0) = false := by simp [h2]
  have HE3 : Hid (Q = if wh ≠ 0 ∧ wh ≠ tx then 7 else if nb = true then 2 else 0) := by have h := HE2.out; show _ = _; rw [if_pos h2] at h; exact h
  clear HE2 h2 hO
  have hck := HCk.out w4 kb (HBx.out w4 gy)
  go_wp2_with fail
  refine hck.mono ?_
  rintro e w5 ⟨rfl, g3⟩
  have gy := gy.trans (g3.mono gy.size)
  have g := g.trans (g3.mono g.size)
  clear g3 hck
  go_upto_region 11 with (fail)
  generalize hY : World.alloc _ _ = Y5
  have g3 : Below w5.heap.size w5 Y5 := by rw [← hY]; go_grown
  have kR : R2 Y5 w5.heap.size kx ky := by rw [← hY]; exact ⟨by simp [go_sem], by simp [go_sem]⟩
  have gy := gy.trans (g3.mono gy.size)
  have g := g.trans (g3.mono g.size)
  clear hY g3
  generalize w5.heap.size = yb at kR ⊢
  have HKy : Hid (∀ V, Below Y5.heap.size Y5 V → R2 V yb kx ky) := fun V hV => kR.below hV
  have HBx : Hid (∀ V, Below Y5.heap.size Y5 V → ChC V kb 0 (⟨x0, ⟨xt, xk, xv, xst⟩, x5, ⟨yt, yk, yv, yst⟩⟩ : Chg)) := fun V hV => HBx.out V (gy.trans (hV.mono gy.size))
  have HOx : Hid (∀ V, Below Y5.heap.size Y5 V → Nr2 V ob) := fun V hV => HOx.out V (gy.trans (hV.mono gy.size))
  obtain ⟨k0, k1⟩ := kR
  clear gy
  have hlk := HL.out _ g
  go_wp2_with fail
  refine hlk.mono ?_
  rintro e w6 ⟨rfl, gy⟩
  have hO := HOx.out w6 gy
  have g := g.trans (gy.mono g.size)
  clear hlk k0 k1
  by_cases h3 : wh ≠ 0 ∧ wh ≠ tx
  case pos =>
    have d1 : (wh != 0) = true := by simpa using h3.1
    have d2 : (wh != tx) = true := by simpa using h3.2
    have HX : Hid (Q = 7 ∧ L0 = []) := by
      have h1 : Q = 7 := by rw [HE3.out, if_pos h3]
      exact ⟨h1, by rw [HLs.out, if_neg (by rw [h1]; decide)]⟩
    clear HE3
    obtain ⟨o0, o1, of0, of1⟩ := hO
    go_wp2_with fail
    refine bodyPost_ret (v := .agg #[.int .i64 7, .slice none 0 0]) (by simp [results, Try.results26, go_sem, *]) rfl ?_
    rw [HX.out.1, HX.out.2]
    exact nc_bad (below_s2 g hob1 _ _)
  have HE4 : Hid (Q = if nb = true then 2 else 0) := by have h := HE3.out; show _ = _; rw [if_neg h3] at h; exact h
  have HNB1 : Hid (nb = (decide (12 ≤ cu) || (decide (12 ≤ xx.l.length) && !hasK xx.l nk))) := by show _ = _; exact (HNBx.out h3).symm
  clear HE3 HNBx
  obtain ⟨b, off, ua, ma, la, uc, mc, lc, e0, Zx⟩ := (HR.out w6 g).at HXx.out
  obtain rfl := e0
  have hok := HS.out xx (List.mem_of_getElem? HXx.out)
  obtain ⟨xid, xu, xm, xl⟩ := xx
  obtain ⟨k1, -, k3, k4⟩ := hok
  dsimp only at k1 k3 k4 HNB1 HRR
  have HZ3 : Hid (∀ V, Below w6.heap.size w6 V → V.cell? ⟨b, off + j * 4 + 3, none⟩ = some (.slice la xl.length lc)) := fun V hV => (Zx.below hV).c3
  have HLk : Hid (∀ V, Below w6.heap.size w6 V → Calls Try.prog 74 #[.pointer (some ⟨b, off + j * 4, none⟩), .agg #[.int .i64 kx, .int .i64 ky]] V fun e w' => e = .returned (.bool (hasK xl nk)) ∧ Below V.heap.size V w') := fun V hV => by
    have Z' := Zx.below hV
    rw [HNK.out]
    exact l10Locks_any b (off + j * 4) la xl xl.length lc kx ky V rfl (by omega) Z'.l Z'.c3
  have HKy6 : Hid (∀ V, Below w6.heap.size w6 V → R2 V yb kx ky) := fun V hV => HKy.out V (gy.trans (hV.mono gy.size))
  clear Zx HKy
  obtain ⟨xln, hxln⟩ : ∃ xln, xl.length = xln := ⟨_, rfl⟩
  rw [hxln] at HZ3 HNB1 k4
  clear hxln
  generalize hasK xl nk = hf at HLk HNB1
  have hjn' : (j : Int) < (n : Int) := by omega
  go_upto_region 12 with (fail)
  go_cut [39] from 33 (fun s wc => s = .bool false ∧ wc = w6)
  case first =>
    by_cases hw : wh = 0
    · have d1 : (wh != 0) = false := by simp [hw]
      clear hO HBx HOx HKy6 HRR HNB1 HNt hw
      go_wp2_with fail
      go_meet
      case rel => exact ⟨rfl, rfl⟩
    · have hw2 : wh = tx := by
        by_cases hw3 : wh = tx
        · exact hw3
        · exact absurd ⟨hw, hw3⟩ h3
      have d1 : (wh != 0) = true := by simpa using hw
      have d2 : (wh != tx) = false := by simp [hw2]
      clear hO HBx HOx HKy6 HRR HNB1 HNt hw2
      go_wp2_with fail
      go_meet
      case rel => exact ⟨rfl, rfl⟩
  case rest =>
  obtain ⟨rfl, rfl⟩ := hcut
  obtain ⟨w6, hW6⟩ : ∃ w6, w6 = wc := ⟨_, rfl⟩
  subst hW6
  have htb : Hid (∀ V, Below w6.heap.size w6 V → Calls Try.prog 73 #[.slice (some ⟨b, off, none⟩) n c] V fun e w' => e = .returned (.int .i64 cu) ∧ w' = V) := fun V hV => HTb.out V (g.trans (hV.mono g.size)) HT0.out
  clear hO
  go_upto_region 14 with (fail)
  go_cut [60] from 41 (fun s wx => s = .bool nb ∧ Below w6.heap.size w6 wx)
  case first =>
    have HKy := HKy6
    clear HBx HOx HRR HE4 HNt HTb HF HP HL HAl HCk HLs HR HS HN HXx
    refine wp_region_held_drew (S := Below w6.heap.size w6) (by kernel_rfl) (Below.refl _ w6).drew (fun hHeld => ?_)
    generalize w6.drew = D at hHeld ⊢
    by_cases hc : 12 ≤ cu
    · have d1 : (12 : Int) ≤ (cu : Int) := by omega
      have HXn : Hid (nb = true) := by show _ = _; rw [HNB1.out]; simp [hc]
      clear HNB1
      refine wpAnyH_take (i := 0) (v := ?v1) rfl (by kernel_rfl) (by kernel_rfl) (by kernel_rfl) (fun _ _ _ h => h) (Or.inl ⟨by kernel_rfl, ?h1⟩) hHeld ?_
      case h1 => intro u hSw; clear hSw; go_simp; try with_reducible rfl
      try simp only [List.getElem_toArray]
      try simp only [List.getElem_cons_succ]
      try simp only [List.getElem_cons_zero]
      try simp only [Act.put]
      try simp only [List.setIfInBounds_toArray]
      try simp only [List.set]
      refine wpAnyH_ready (rs := [1]) (by kernel_rfl) (by simp) ?_
      refine AllReadyH.cons rfl (fun K hK => ?_) AllReadyH.nil
      go_simp
      go_wp2_with (go_at_call 73; refine (htb.out _ hHeld).mono ?_; rintro e V1 ⟨rfl, hw⟩; subst V1)
      refine hK.out _ _ hHeld (fun hHeld => ?_)
      clear hK K
      try simp only [Act.put]
      try simp only [List.setIfInBounds_toArray]
      try simp only [List.set]
      refine wpAnyH_take (i := 2) (v := .bool true) rfl (by kernel_rfl) (by kernel_rfl) (by kernel_rfl) (fun _ _ _ h => h) (Or.inl ⟨by kernel_rfl, ?hv1⟩) hHeld ?_
      case hv1 =>
        intro u hSw
        clear hSw hHeld
        go_simp
        try omega
      try simp only [List.getElem_toArray]
      try simp only [List.getElem_cons_succ]
      try simp only [List.getElem_cons_zero]
      try simp only [Act.put]
      try simp only [List.setIfInBounds_toArray]
      try simp only [List.set]
      refine wpAnyH_take (i := 3) (v := .bool true) rfl (by kernel_rfl) (by kernel_rfl) (by kernel_rfl) (fun _ _ _ h => h) (Or.inl ⟨by kernel_rfl, ?hv2⟩) hHeld ?_
      case hv2 =>
        intro u hSw
        clear hSw hHeld
        go_simp
        try omega
      try simp only [List.getElem_toArray]
      try simp only [List.getElem_cons_succ]
      try simp only [List.getElem_cons_zero]
      try simp only [Act.put]
      try simp only [List.setIfInBounds_toArray]
      try simp only [List.set]
      refine wpAnyH_take (i := 4) (v := undef) rfl (by kernel_rfl) (by kernel_rfl) (by kernel_rfl) (fun _ _ _ h => h) (Or.inr ⟨by kernel_rfl, rfl⟩) hHeld ?_
      try simp only [List.getElem_toArray]
      try simp only [List.getElem_cons_succ]
      try simp only [List.getElem_cons_zero]
      try simp only [Act.put]
      try simp only [List.setIfInBounds_toArray]
      try simp only [List.set]
      refine wpAnyH_take (i := 5) (v := undef) rfl (by kernel_rfl) (by kernel_rfl) (by kernel_rfl) (fun _ _ _ h => h) (Or.inr ⟨by kernel_rfl, rfl⟩) hHeld ?_
      try simp only [List.getElem_toArray]
      try simp only [List.getElem_cons_succ]
      try simp only [List.getElem_cons_zero]
      try simp only [Act.put]
      try simp only [List.setIfInBounds_toArray]
      try simp only [List.set]
      refine wpAnyH_take (i := 6) (v := undef) rfl (by kernel_rfl) (by kernel_rfl) (by kernel_rfl) (fun _ _ _ h => h) (Or.inr ⟨by kernel_rfl, rfl⟩) hHeld ?_
      try simp only [List.getElem_toArray]
      try simp only [List.getElem_cons_succ]
      try simp only [List.getElem_cons_zero]
      try simp only [Act.put]
      try simp only [List.setIfInBounds_toArray]
      try simp only [List.set]
      refine wpAnyH_take (i := 7) (v := undef) rfl (by kernel_rfl) (by kernel_rfl) (by kernel_rfl) (fun _ _ _ h => h) (Or.inr ⟨by kernel_rfl, rfl⟩) hHeld ?_
      try simp only [List.getElem_toArray]
      try simp only [List.getElem_cons_succ]
      try simp only [List.getElem_cons_zero]
      try simp only [Act.put]
      try simp only [List.setIfInBounds_toArray]
      try simp only [List.set]
      refine wpAnyH_take (i := 8) (v := undef) rfl (by kernel_rfl) (by kernel_rfl) (by kernel_rfl) (fun _ _ _ h => h) (Or.inr ⟨by kernel_rfl, rfl⟩) hHeld ?_
      try simp only [List.getElem_toArray]
      try simp only [List.getElem_cons_succ]
      try simp only [List.getElem_cons_zero]
      try simp only [Act.put]
      try simp only [List.setIfInBounds_toArray]
      try simp only [List.set]
      refine wpAnyH_take (i := 9) (v := undef) rfl (by kernel_rfl) (by kernel_rfl) (by kernel_rfl) (fun _ _ _ h => h) (Or.inr ⟨by kernel_rfl, rfl⟩) hHeld ?_
      try simp only [List.getElem_toArray]
      try simp only [List.getElem_cons_succ]
      try simp only [List.getElem_cons_zero]
      try simp only [Act.put]
      try simp only [List.setIfInBounds_toArray]
      try simp only [List.set]
      refine wpAnyH_take (i := 10) (v := undef) rfl (by kernel_rfl) (by kernel_rfl) (by kernel_rfl) (fun _ _ _ h => h) (Or.inr ⟨by kernel_rfl, rfl⟩) hHeld ?_
      try simp only [List.getElem_toArray]
      try simp only [List.getElem_cons_succ]
      try simp only [List.getElem_cons_zero]
      try simp only [Act.put]
      try simp only [List.setIfInBounds_toArray]
      try simp only [List.set]
      refine wpAnyH_take (i := 11) (v := undef) rfl (by kernel_rfl) (by kernel_rfl) (by kernel_rfl) (fun _ _ _ h => h) (Or.inr ⟨by kernel_rfl, rfl⟩) hHeld ?_
      try simp only [List.getElem_toArray]
      try simp only [List.getElem_cons_succ]
      try simp only [List.getElem_cons_zero]
      try simp only [Act.put]
      try simp only [List.setIfInBounds_toArray]
      try simp only [List.set]
      refine wpAnyH_take (i := 12) (v := undef) rfl (by kernel_rfl) (by kernel_rfl) (by kernel_rfl) (fun _ _ _ h => h) (Or.inr ⟨by kernel_rfl, rfl⟩) hHeld ?_
      try simp only [List.getElem_toArray]
      try simp only [List.getElem_cons_succ]
      try simp only [List.getElem_cons_zero]
      try simp only [Act.put]
      try simp only [List.setIfInBounds_toArray]
      try simp only [List.set]
      refine wpAnyH_take (i := 13) (v := undef) rfl (by kernel_rfl) (by kernel_rfl) (by kernel_rfl) (fun _ _ _ h => h) (Or.inr ⟨by kernel_rfl, rfl⟩) hHeld ?_
      try simp only [List.getElem_toArray]
      try simp only [List.getElem_cons_succ]
      try simp only [List.getElem_cons_zero]
      try simp only [Act.put]
      try simp only [List.setIfInBounds_toArray]
      try simp only [List.set]
      refine wpAnyH_take (i := 14) (v := undef) rfl (by kernel_rfl) (by kernel_rfl) (by kernel_rfl) (fun _ _ _ h => h) (Or.inr ⟨by kernel_rfl, rfl⟩) hHeld ?_
      try simp only [List.getElem_toArray]
      try simp only [List.getElem_cons_succ]
      try simp only [List.getElem_cons_zero]
      try simp only [Act.put]
      try simp only [List.setIfInBounds_toArray]
      try simp only [List.set]
      refine wpAnyH_take (i := 15) (v := undef) rfl (by kernel_rfl) (by kernel_rfl) (by kernel_rfl) (fun _ _ _ h => h) (Or.inr ⟨by kernel_rfl, rfl⟩) hHeld ?_
      try simp only [List.getElem_toArray]
      try simp only [List.getElem_cons_succ]
      try simp only [List.getElem_cons_zero]
      try simp only [Act.put]
      try simp only [List.setIfInBounds_toArray]
      try simp only [List.set]
      refine wpAnyH_take (i := 16) (v := undef) rfl (by kernel_rfl) (by kernel_rfl) (by kernel_rfl) (fun _ _ _ h => h) (Or.inr ⟨by kernel_rfl, rfl⟩) hHeld ?_
      try simp only [List.getElem_toArray]
      try simp only [List.getElem_cons_succ]
      try simp only [List.getElem_cons_zero]
      try simp only [Act.put]
      try simp only [List.setIfInBounds_toArray]
      try simp only [List.set]
      refine wpAnyH_take (i := 17) (v := undef) rfl (by kernel_rfl) (by kernel_rfl) (by kernel_rfl) (fun _ _ _ h => h) (Or.inr ⟨by kernel_rfl, rfl⟩) hHeld ?_
      try simp only [List.getElem_toArray]
      try simp only [List.getElem_cons_succ]
      try simp only [List.getElem_cons_zero]
      try simp only [Act.put]
      try simp only [List.setIfInBounds_toArray]
      try simp only [List.set]
      refine wpAnyH_take (i := 18) (v := undef) rfl (by kernel_rfl) (by kernel_rfl) (by kernel_rfl) (fun _ _ _ h => h) (Or.inr ⟨by kernel_rfl, rfl⟩) hHeld ?_
      try simp only [List.getElem_toArray]
      try simp only [List.getElem_cons_succ]
      try simp only [List.getElem_cons_zero]
      try simp only [Act.put]
      try simp only [List.setIfInBounds_toArray]
      try simp only [List.set]
      refine wpAnyH_take (i := 19) (v := ?v2) rfl (by kernel_rfl) (by kernel_rfl) (by kernel_rfl) (fun _ _ _ h => h) (Or.inl ⟨by kernel_rfl, ?h2⟩) hHeld ?_
      case h2 => intro u hSw; clear hSw; go_simp; try with_reducible rfl
      try simp only [List.getElem_toArray]
      try simp only [List.getElem_cons_succ]
      try simp only [List.getElem_cons_zero]
      try simp only [Act.put]
      try simp only [List.setIfInBounds_toArray]
      try simp only [List.set]
      refine wpAnyH_done (by kernel_rfl) ?_ _
      have g7 := hHeld
      clear hHeld
      go_wp2_with fail
      go_meet
      case rel => exact ⟨by rw [HXn.out], g7⟩
    · have d1 : ¬ (12 : Int) ≤ (cu : Int) := by omega
      have HNB2 : Hid (nb = (decide (12 ≤ xln) && !hf)) := by show _ = _; rw [HNB1.out]; simp [hc]
      clear HNB1
      by_cases hl : 12 ≤ xln
      · have d2 : (12 : Int) ≤ (xln : Int) := by omega
        have HXn : Hid (nb = !hf) := by show _ = _; rw [HNB2.out]; simp [hl]
        clear HNB2
        cases hf
        · refine wpAnyH_take (i := 0) (v := ?v3) rfl (by kernel_rfl) (by kernel_rfl) (by kernel_rfl) (fun _ _ _ h => h) (Or.inl ⟨by kernel_rfl, ?h3⟩) hHeld ?_
          case h3 => intro u hSw; clear hSw; go_simp; try with_reducible rfl
          try simp only [List.getElem_toArray]
          try simp only [List.getElem_cons_succ]
          try simp only [List.getElem_cons_zero]
          try simp only [Act.put]
          try simp only [List.setIfInBounds_toArray]
          try simp only [List.set]
          refine wpAnyH_ready (rs := [1]) (by kernel_rfl) (by simp) ?_
          refine AllReadyH.cons rfl (fun K hK => ?_) AllReadyH.nil
          go_simp
          go_wp2_with (go_at_call 73; refine (htb.out _ hHeld).mono ?_; rintro e V1 ⟨rfl, hw⟩; subst V1)
          refine hK.out _ _ hHeld (fun hHeld => ?_)
          clear hK K
          try simp only [Act.put]
          try simp only [List.setIfInBounds_toArray]
          try simp only [List.set]
          refine wpAnyH_take (i := 2) (v := .bool false) rfl (by kernel_rfl) (by kernel_rfl) (by kernel_rfl) (fun _ _ _ h => h) (Or.inl ⟨by kernel_rfl, ?hv3⟩) hHeld ?_
          case hv3 =>
            intro u hSw
            clear hSw hHeld
            go_simp
            try omega
          try simp only [List.getElem_toArray]
          try simp only [List.getElem_cons_succ]
          try simp only [List.getElem_cons_zero]
          try simp only [Act.put]
          try simp only [List.setIfInBounds_toArray]
          try simp only [List.set]
          refine wpAnyH_take (i := 3) (v := .bool false) rfl (by kernel_rfl) (by kernel_rfl) (by kernel_rfl) (fun _ _ _ h => h) (Or.inl ⟨by kernel_rfl, ?hv4⟩) hHeld ?_
          case hv4 =>
            intro u hSw
            clear hSw hHeld
            go_simp
            try omega
          try simp only [List.getElem_toArray]
          try simp only [List.getElem_cons_succ]
          try simp only [List.getElem_cons_zero]
          try simp only [Act.put]
          try simp only [List.setIfInBounds_toArray]
          try simp only [List.set]
          refine wpAnyH_take (i := 4) (v := ?v4) rfl (by kernel_rfl) (by kernel_rfl) (by kernel_rfl) (fun _ _ _ h => h) (Or.inl ⟨by kernel_rfl, ?h4⟩) hHeld ?_
          case h4 => intro u hSw; clear hSw; go_simp; try with_reducible rfl
          try simp only [List.getElem_toArray]
          try simp only [List.getElem_cons_succ]
          try simp only [List.getElem_cons_zero]
          try simp only [Act.put]
          try simp only [List.setIfInBounds_toArray]
          try simp only [List.set]
          refine wpAnyH_take (i := 5) (v := ?v5) rfl (by kernel_rfl) (by kernel_rfl) (by kernel_rfl) (fun _ _ _ h => h) (Or.inl ⟨by kernel_rfl, ?h5⟩) hHeld ?_
          case h5 => intro u hSw; clear hSw; go_simp; try with_reducible rfl
          try simp only [List.getElem_toArray]
          try simp only [List.getElem_cons_succ]
          try simp only [List.getElem_cons_zero]
          try simp only [Act.put]
          try simp only [List.setIfInBounds_toArray]
          try simp only [List.set]
          refine wpAnyH_take (i := 6) (v := ?v6) rfl (by kernel_rfl) (by kernel_rfl) (by kernel_rfl) (fun _ _ _ h => h) (Or.inl ⟨by kernel_rfl, ?h6⟩) hHeld ?_
          case h6 => intro u hSw; clear hSw; go_simp; try with_reducible rfl
          try simp only [List.getElem_toArray]
          try simp only [List.getElem_cons_succ]
          try simp only [List.getElem_cons_zero]
          try simp only [Act.put]
          try simp only [List.setIfInBounds_toArray]
          try simp only [List.set]
          refine wpAnyH_take (i := 7) (v := ?v7) rfl (by kernel_rfl) (by kernel_rfl) (by kernel_rfl) (fun _ _ _ h => h) (Or.inl ⟨by kernel_rfl, ?h7⟩) hHeld ?_
          case h7 => intro u hSw; clear hSw; go_simp; try with_reducible rfl
          try simp only [List.getElem_toArray]
          try simp only [List.getElem_cons_succ]
          try simp only [List.getElem_cons_zero]
          try simp only [Act.put]
          try simp only [List.setIfInBounds_toArray]
          try simp only [List.set]
          refine wpAnyH_take (i := 8) (v := ?v8) rfl (by kernel_rfl) (by kernel_rfl) (by kernel_rfl) (fun _ _ _ h => h) (Or.inl ⟨by kernel_rfl, ?h8⟩) hHeld ?_
          case h8 => intro u hSw; have z3 := HZ3.out u hSw; clear hSw; go_simp; try with_reducible rfl
          try simp only [List.getElem_toArray]
          try simp only [List.getElem_cons_succ]
          try simp only [List.getElem_cons_zero]
          try simp only [Act.put]
          try simp only [List.setIfInBounds_toArray]
          try simp only [List.set]
          refine wpAnyH_take (i := 9) (v := ?v9) rfl (by kernel_rfl) (by kernel_rfl) (by kernel_rfl) (fun _ _ _ h => h) (Or.inl ⟨by kernel_rfl, ?h9⟩) hHeld ?_
          case h9 => intro u hSw; clear hSw; go_simp; try with_reducible rfl
          try simp only [List.getElem_toArray]
          try simp only [List.getElem_cons_succ]
          try simp only [List.getElem_cons_zero]
          try simp only [Act.put]
          try simp only [List.setIfInBounds_toArray]
          try simp only [List.set]
          refine wpAnyH_take (i := 10) (v := .bool true) rfl (by kernel_rfl) (by kernel_rfl) (by kernel_rfl) (fun _ _ _ h => h) (Or.inl ⟨by kernel_rfl, ?hv5⟩) hHeld ?_
          case hv5 =>
            intro u hSw
            clear hSw hHeld
            go_simp
            try omega
          try simp only [List.getElem_toArray]
          try simp only [List.getElem_cons_succ]
          try simp only [List.getElem_cons_zero]
          try simp only [Act.put]
          try simp only [List.setIfInBounds_toArray]
          try simp only [List.set]
          refine wpAnyH_take (i := 11) (v := .bool true) rfl (by kernel_rfl) (by kernel_rfl) (by kernel_rfl) (fun _ _ _ h => h) (Or.inl ⟨by kernel_rfl, ?hv6⟩) hHeld ?_
          case hv6 =>
            intro u hSw
            clear hSw hHeld
            go_simp
            try omega
          try simp only [List.getElem_toArray]
          try simp only [List.getElem_cons_succ]
          try simp only [List.getElem_cons_zero]
          try simp only [Act.put]
          try simp only [List.setIfInBounds_toArray]
          try simp only [List.set]
          refine wpAnyH_take (i := 12) (v := ?v10) rfl (by kernel_rfl) (by kernel_rfl) (by kernel_rfl) (fun _ _ _ h => h) (Or.inl ⟨by kernel_rfl, ?h10⟩) hHeld ?_
          case h10 => intro u hSw; clear hSw; go_simp; try with_reducible rfl
          try simp only [List.getElem_toArray]
          try simp only [List.getElem_cons_succ]
          try simp only [List.getElem_cons_zero]
          try simp only [Act.put]
          try simp only [List.setIfInBounds_toArray]
          try simp only [List.set]
          refine wpAnyH_take (i := 13) (v := ?v11) rfl (by kernel_rfl) (by kernel_rfl) (by kernel_rfl) (fun _ _ _ h => h) (Or.inl ⟨by kernel_rfl, ?h11⟩) hHeld ?_
          case h11 => intro u hSw; clear hSw; go_simp; try with_reducible rfl
          try simp only [List.getElem_toArray]
          try simp only [List.getElem_cons_succ]
          try simp only [List.getElem_cons_zero]
          try simp only [Act.put]
          try simp only [List.setIfInBounds_toArray]
          try simp only [List.set]
          refine wpAnyH_take (i := 14) (v := ?v12) rfl (by kernel_rfl) (by kernel_rfl) (by kernel_rfl) (fun _ _ _ h => h) (Or.inl ⟨by kernel_rfl, ?h12⟩) hHeld ?_
          case h12 => intro u hSw; clear hSw; go_simp; try with_reducible rfl
          try simp only [List.getElem_toArray]
          try simp only [List.getElem_cons_succ]
          try simp only [List.getElem_cons_zero]
          try simp only [Act.put]
          try simp only [List.setIfInBounds_toArray]
          try simp only [List.set]
          refine wpAnyH_take (i := 15) (v := ?v13) rfl (by kernel_rfl) (by kernel_rfl) (by kernel_rfl) (fun _ _ _ h => h) (Or.inl ⟨by kernel_rfl, ?h13⟩) hHeld ?_
          case h13 => intro u hSw; obtain ⟨y0, y1⟩ := HKy.out u hSw; clear hSw; go_simp; try with_reducible rfl
          try simp only [List.getElem_toArray]
          try simp only [List.getElem_cons_succ]
          try simp only [List.getElem_cons_zero]
          try simp only [Act.put]
          try simp only [List.setIfInBounds_toArray]
          try simp only [List.set]
          refine wpAnyH_ready (rs := [16]) (by kernel_rfl) (by simp) ?_
          refine AllReadyH.cons rfl (fun K hK => ?_) AllReadyH.nil
          go_simp
          go_wp2_with (go_at_call 74; refine (HLk.out _ hHeld).mono ?_; rintro e V2 ⟨rfl, gg⟩)
          refine hK.out _ _ (hHeld.trans (gg.mono hHeld.size)) (fun hHeld => ?_)
          clear hK K gg
          try simp only [Act.put]
          try simp only [List.setIfInBounds_toArray]
          try simp only [List.set]
          refine wpAnyH_take (i := 17) (v := ?v14) rfl (by kernel_rfl) (by kernel_rfl) (by kernel_rfl) (fun _ _ _ h => h) (Or.inl ⟨by kernel_rfl, ?h14⟩) hHeld ?_
          case h14 => intro u hSw; clear hSw; go_simp; try with_reducible rfl
          try simp only [List.getElem_toArray]
          try simp only [List.getElem_cons_succ]
          try simp only [List.getElem_cons_zero]
          try simp only [Act.put]
          try simp only [List.setIfInBounds_toArray]
          try simp only [List.set]
          refine wpAnyH_take (i := 18) (v := ?v15) rfl (by kernel_rfl) (by kernel_rfl) (by kernel_rfl) (fun _ _ _ h => h) (Or.inl ⟨by kernel_rfl, ?h15⟩) hHeld ?_
          case h15 => intro u hSw; clear hSw; go_simp; try with_reducible rfl
          try simp only [List.getElem_toArray]
          try simp only [List.getElem_cons_succ]
          try simp only [List.getElem_cons_zero]
          try simp only [Act.put]
          try simp only [List.setIfInBounds_toArray]
          try simp only [List.set]
          refine wpAnyH_take (i := 19) (v := ?v16) rfl (by kernel_rfl) (by kernel_rfl) (by kernel_rfl) (fun _ _ _ h => h) (Or.inl ⟨by kernel_rfl, ?h16⟩) hHeld ?_
          case h16 => intro u hSw; clear hSw; go_simp; try with_reducible rfl
          try simp only [List.getElem_toArray]
          try simp only [List.getElem_cons_succ]
          try simp only [List.getElem_cons_zero]
          try simp only [Act.put]
          try simp only [List.setIfInBounds_toArray]
          try simp only [List.set]
          refine wpAnyH_done (by kernel_rfl) ?_ _
          have g7 := hHeld
          clear hHeld
          go_wp2_with fail
          go_meet
          case rel => exact ⟨by rw [HXn.out]; rfl, g7⟩
        · refine wpAnyH_take (i := 0) (v := ?v17) rfl (by kernel_rfl) (by kernel_rfl) (by kernel_rfl) (fun _ _ _ h => h) (Or.inl ⟨by kernel_rfl, ?h17⟩) hHeld ?_
          case h17 => intro u hSw; clear hSw; go_simp; try with_reducible rfl
          try simp only [List.getElem_toArray]
          try simp only [List.getElem_cons_succ]
          try simp only [List.getElem_cons_zero]
          try simp only [Act.put]
          try simp only [List.setIfInBounds_toArray]
          try simp only [List.set]
          refine wpAnyH_ready (rs := [1]) (by kernel_rfl) (by simp) ?_
          refine AllReadyH.cons rfl (fun K hK => ?_) AllReadyH.nil
          go_simp
          go_wp2_with (go_at_call 73; refine (htb.out _ hHeld).mono ?_; rintro e V1 ⟨rfl, hw⟩; subst V1)
          refine hK.out _ _ hHeld (fun hHeld => ?_)
          clear hK K
          try simp only [Act.put]
          try simp only [List.setIfInBounds_toArray]
          try simp only [List.set]
          refine wpAnyH_take (i := 2) (v := .bool false) rfl (by kernel_rfl) (by kernel_rfl) (by kernel_rfl) (fun _ _ _ h => h) (Or.inl ⟨by kernel_rfl, ?hv7⟩) hHeld ?_
          case hv7 =>
            intro u hSw
            clear hSw hHeld
            go_simp
            try omega
          try simp only [List.getElem_toArray]
          try simp only [List.getElem_cons_succ]
          try simp only [List.getElem_cons_zero]
          try simp only [Act.put]
          try simp only [List.setIfInBounds_toArray]
          try simp only [List.set]
          refine wpAnyH_take (i := 3) (v := .bool false) rfl (by kernel_rfl) (by kernel_rfl) (by kernel_rfl) (fun _ _ _ h => h) (Or.inl ⟨by kernel_rfl, ?hv8⟩) hHeld ?_
          case hv8 =>
            intro u hSw
            clear hSw hHeld
            go_simp
            try omega
          try simp only [List.getElem_toArray]
          try simp only [List.getElem_cons_succ]
          try simp only [List.getElem_cons_zero]
          try simp only [Act.put]
          try simp only [List.setIfInBounds_toArray]
          try simp only [List.set]
          refine wpAnyH_take (i := 4) (v := ?v18) rfl (by kernel_rfl) (by kernel_rfl) (by kernel_rfl) (fun _ _ _ h => h) (Or.inl ⟨by kernel_rfl, ?h18⟩) hHeld ?_
          case h18 => intro u hSw; clear hSw; go_simp; try with_reducible rfl
          try simp only [List.getElem_toArray]
          try simp only [List.getElem_cons_succ]
          try simp only [List.getElem_cons_zero]
          try simp only [Act.put]
          try simp only [List.setIfInBounds_toArray]
          try simp only [List.set]
          refine wpAnyH_take (i := 5) (v := ?v19) rfl (by kernel_rfl) (by kernel_rfl) (by kernel_rfl) (fun _ _ _ h => h) (Or.inl ⟨by kernel_rfl, ?h19⟩) hHeld ?_
          case h19 => intro u hSw; clear hSw; go_simp; try with_reducible rfl
          try simp only [List.getElem_toArray]
          try simp only [List.getElem_cons_succ]
          try simp only [List.getElem_cons_zero]
          try simp only [Act.put]
          try simp only [List.setIfInBounds_toArray]
          try simp only [List.set]
          refine wpAnyH_take (i := 6) (v := ?v20) rfl (by kernel_rfl) (by kernel_rfl) (by kernel_rfl) (fun _ _ _ h => h) (Or.inl ⟨by kernel_rfl, ?h20⟩) hHeld ?_
          case h20 => intro u hSw; clear hSw; go_simp; try with_reducible rfl
          try simp only [List.getElem_toArray]
          try simp only [List.getElem_cons_succ]
          try simp only [List.getElem_cons_zero]
          try simp only [Act.put]
          try simp only [List.setIfInBounds_toArray]
          try simp only [List.set]
          refine wpAnyH_take (i := 7) (v := ?v21) rfl (by kernel_rfl) (by kernel_rfl) (by kernel_rfl) (fun _ _ _ h => h) (Or.inl ⟨by kernel_rfl, ?h21⟩) hHeld ?_
          case h21 => intro u hSw; clear hSw; go_simp; try with_reducible rfl
          try simp only [List.getElem_toArray]
          try simp only [List.getElem_cons_succ]
          try simp only [List.getElem_cons_zero]
          try simp only [Act.put]
          try simp only [List.setIfInBounds_toArray]
          try simp only [List.set]
          refine wpAnyH_take (i := 8) (v := ?v22) rfl (by kernel_rfl) (by kernel_rfl) (by kernel_rfl) (fun _ _ _ h => h) (Or.inl ⟨by kernel_rfl, ?h22⟩) hHeld ?_
          case h22 => intro u hSw; have z3 := HZ3.out u hSw; clear hSw; go_simp; try with_reducible rfl
          try simp only [List.getElem_toArray]
          try simp only [List.getElem_cons_succ]
          try simp only [List.getElem_cons_zero]
          try simp only [Act.put]
          try simp only [List.setIfInBounds_toArray]
          try simp only [List.set]
          refine wpAnyH_take (i := 9) (v := ?v23) rfl (by kernel_rfl) (by kernel_rfl) (by kernel_rfl) (fun _ _ _ h => h) (Or.inl ⟨by kernel_rfl, ?h23⟩) hHeld ?_
          case h23 => intro u hSw; clear hSw; go_simp; try with_reducible rfl
          try simp only [List.getElem_toArray]
          try simp only [List.getElem_cons_succ]
          try simp only [List.getElem_cons_zero]
          try simp only [Act.put]
          try simp only [List.setIfInBounds_toArray]
          try simp only [List.set]
          refine wpAnyH_take (i := 10) (v := .bool true) rfl (by kernel_rfl) (by kernel_rfl) (by kernel_rfl) (fun _ _ _ h => h) (Or.inl ⟨by kernel_rfl, ?hv9⟩) hHeld ?_
          case hv9 =>
            intro u hSw
            clear hSw hHeld
            go_simp
            try omega
          try simp only [List.getElem_toArray]
          try simp only [List.getElem_cons_succ]
          try simp only [List.getElem_cons_zero]
          try simp only [Act.put]
          try simp only [List.setIfInBounds_toArray]
          try simp only [List.set]
          refine wpAnyH_take (i := 11) (v := .bool true) rfl (by kernel_rfl) (by kernel_rfl) (by kernel_rfl) (fun _ _ _ h => h) (Or.inl ⟨by kernel_rfl, ?hv10⟩) hHeld ?_
          case hv10 =>
            intro u hSw
            clear hSw hHeld
            go_simp
            try omega
          try simp only [List.getElem_toArray]
          try simp only [List.getElem_cons_succ]
          try simp only [List.getElem_cons_zero]
          try simp only [Act.put]
          try simp only [List.setIfInBounds_toArray]
          try simp only [List.set]
          refine wpAnyH_take (i := 12) (v := ?v24) rfl (by kernel_rfl) (by kernel_rfl) (by kernel_rfl) (fun _ _ _ h => h) (Or.inl ⟨by kernel_rfl, ?h24⟩) hHeld ?_
          case h24 => intro u hSw; clear hSw; go_simp; try with_reducible rfl
          try simp only [List.getElem_toArray]
          try simp only [List.getElem_cons_succ]
          try simp only [List.getElem_cons_zero]
          try simp only [Act.put]
          try simp only [List.setIfInBounds_toArray]
          try simp only [List.set]
          refine wpAnyH_take (i := 13) (v := ?v25) rfl (by kernel_rfl) (by kernel_rfl) (by kernel_rfl) (fun _ _ _ h => h) (Or.inl ⟨by kernel_rfl, ?h25⟩) hHeld ?_
          case h25 => intro u hSw; clear hSw; go_simp; try with_reducible rfl
          try simp only [List.getElem_toArray]
          try simp only [List.getElem_cons_succ]
          try simp only [List.getElem_cons_zero]
          try simp only [Act.put]
          try simp only [List.setIfInBounds_toArray]
          try simp only [List.set]
          refine wpAnyH_take (i := 14) (v := ?v26) rfl (by kernel_rfl) (by kernel_rfl) (by kernel_rfl) (fun _ _ _ h => h) (Or.inl ⟨by kernel_rfl, ?h26⟩) hHeld ?_
          case h26 => intro u hSw; clear hSw; go_simp; try with_reducible rfl
          try simp only [List.getElem_toArray]
          try simp only [List.getElem_cons_succ]
          try simp only [List.getElem_cons_zero]
          try simp only [Act.put]
          try simp only [List.setIfInBounds_toArray]
          try simp only [List.set]
          refine wpAnyH_take (i := 15) (v := ?v27) rfl (by kernel_rfl) (by kernel_rfl) (by kernel_rfl) (fun _ _ _ h => h) (Or.inl ⟨by kernel_rfl, ?h27⟩) hHeld ?_
          case h27 => intro u hSw; obtain ⟨y0, y1⟩ := HKy.out u hSw; clear hSw; go_simp; try with_reducible rfl
          try simp only [List.getElem_toArray]
          try simp only [List.getElem_cons_succ]
          try simp only [List.getElem_cons_zero]
          try simp only [Act.put]
          try simp only [List.setIfInBounds_toArray]
          try simp only [List.set]
          refine wpAnyH_ready (rs := [16]) (by kernel_rfl) (by simp) ?_
          refine AllReadyH.cons rfl (fun K hK => ?_) AllReadyH.nil
          go_simp
          go_wp2_with (go_at_call 74; refine (HLk.out _ hHeld).mono ?_; rintro e V2 ⟨rfl, gg⟩)
          refine hK.out _ _ (hHeld.trans (gg.mono hHeld.size)) (fun hHeld => ?_)
          clear hK K gg
          try simp only [Act.put]
          try simp only [List.setIfInBounds_toArray]
          try simp only [List.set]
          refine wpAnyH_take (i := 17) (v := ?v28) rfl (by kernel_rfl) (by kernel_rfl) (by kernel_rfl) (fun _ _ _ h => h) (Or.inl ⟨by kernel_rfl, ?h28⟩) hHeld ?_
          case h28 => intro u hSw; clear hSw; go_simp; try with_reducible rfl
          try simp only [List.getElem_toArray]
          try simp only [List.getElem_cons_succ]
          try simp only [List.getElem_cons_zero]
          try simp only [Act.put]
          try simp only [List.setIfInBounds_toArray]
          try simp only [List.set]
          refine wpAnyH_take (i := 18) (v := ?v29) rfl (by kernel_rfl) (by kernel_rfl) (by kernel_rfl) (fun _ _ _ h => h) (Or.inl ⟨by kernel_rfl, ?h29⟩) hHeld ?_
          case h29 => intro u hSw; clear hSw; go_simp; try with_reducible rfl
          try simp only [List.getElem_toArray]
          try simp only [List.getElem_cons_succ]
          try simp only [List.getElem_cons_zero]
          try simp only [Act.put]
          try simp only [List.setIfInBounds_toArray]
          try simp only [List.set]
          refine wpAnyH_take (i := 19) (v := ?v30) rfl (by kernel_rfl) (by kernel_rfl) (by kernel_rfl) (fun _ _ _ h => h) (Or.inl ⟨by kernel_rfl, ?h30⟩) hHeld ?_
          case h30 => intro u hSw; clear hSw; go_simp; try with_reducible rfl
          try simp only [List.getElem_toArray]
          try simp only [List.getElem_cons_succ]
          try simp only [List.getElem_cons_zero]
          try simp only [Act.put]
          try simp only [List.setIfInBounds_toArray]
          try simp only [List.set]
          refine wpAnyH_done (by kernel_rfl) ?_ _
          have g7 := hHeld
          clear hHeld
          go_wp2_with fail
          go_meet
          case rel => exact ⟨by rw [HXn.out]; rfl, g7⟩
      · have d2 : ¬ (12 : Int) ≤ (xln : Int) := by omega
        have HXn : Hid (nb = false) := by show _ = _; rw [HNB2.out]; simp [hl]
        clear HNB2
        refine wpAnyH_take (i := 0) (v := ?v31) rfl (by kernel_rfl) (by kernel_rfl) (by kernel_rfl) (fun _ _ _ h => h) (Or.inl ⟨by kernel_rfl, ?h31⟩) hHeld ?_
        case h31 => intro u hSw; clear hSw; go_simp; try with_reducible rfl
        try simp only [List.getElem_toArray]
        try simp only [List.getElem_cons_succ]
        try simp only [List.getElem_cons_zero]
        try simp only [Act.put]
        try simp only [List.setIfInBounds_toArray]
        try simp only [List.set]
        refine wpAnyH_ready (rs := [1]) (by kernel_rfl) (by simp) ?_
        refine AllReadyH.cons rfl (fun K hK => ?_) AllReadyH.nil
        go_simp
        go_wp2_with (go_at_call 73; refine (htb.out _ hHeld).mono ?_; rintro e V1 ⟨rfl, hw⟩; subst V1)
        refine hK.out _ _ hHeld (fun hHeld => ?_)
        clear hK K
        try simp only [Act.put]
        try simp only [List.setIfInBounds_toArray]
        try simp only [List.set]
        refine wpAnyH_take (i := 2) (v := .bool false) rfl (by kernel_rfl) (by kernel_rfl) (by kernel_rfl) (fun _ _ _ h => h) (Or.inl ⟨by kernel_rfl, ?hv11⟩) hHeld ?_
        case hv11 =>
          intro u hSw
          clear hSw hHeld
          go_simp
          try omega
        try simp only [List.getElem_toArray]
        try simp only [List.getElem_cons_succ]
        try simp only [List.getElem_cons_zero]
        try simp only [Act.put]
        try simp only [List.setIfInBounds_toArray]
        try simp only [List.set]
        refine wpAnyH_take (i := 3) (v := .bool false) rfl (by kernel_rfl) (by kernel_rfl) (by kernel_rfl) (fun _ _ _ h => h) (Or.inl ⟨by kernel_rfl, ?hv12⟩) hHeld ?_
        case hv12 =>
          intro u hSw
          clear hSw hHeld
          go_simp
          try omega
        try simp only [List.getElem_toArray]
        try simp only [List.getElem_cons_succ]
        try simp only [List.getElem_cons_zero]
        try simp only [Act.put]
        try simp only [List.setIfInBounds_toArray]
        try simp only [List.set]
        refine wpAnyH_take (i := 4) (v := ?v32) rfl (by kernel_rfl) (by kernel_rfl) (by kernel_rfl) (fun _ _ _ h => h) (Or.inl ⟨by kernel_rfl, ?h32⟩) hHeld ?_
        case h32 => intro u hSw; clear hSw; go_simp; try with_reducible rfl
        try simp only [List.getElem_toArray]
        try simp only [List.getElem_cons_succ]
        try simp only [List.getElem_cons_zero]
        try simp only [Act.put]
        try simp only [List.setIfInBounds_toArray]
        try simp only [List.set]
        refine wpAnyH_take (i := 5) (v := ?v33) rfl (by kernel_rfl) (by kernel_rfl) (by kernel_rfl) (fun _ _ _ h => h) (Or.inl ⟨by kernel_rfl, ?h33⟩) hHeld ?_
        case h33 => intro u hSw; clear hSw; go_simp; try with_reducible rfl
        try simp only [List.getElem_toArray]
        try simp only [List.getElem_cons_succ]
        try simp only [List.getElem_cons_zero]
        try simp only [Act.put]
        try simp only [List.setIfInBounds_toArray]
        try simp only [List.set]
        refine wpAnyH_take (i := 6) (v := ?v34) rfl (by kernel_rfl) (by kernel_rfl) (by kernel_rfl) (fun _ _ _ h => h) (Or.inl ⟨by kernel_rfl, ?h34⟩) hHeld ?_
        case h34 => intro u hSw; clear hSw; go_simp; try with_reducible rfl
        try simp only [List.getElem_toArray]
        try simp only [List.getElem_cons_succ]
        try simp only [List.getElem_cons_zero]
        try simp only [Act.put]
        try simp only [List.setIfInBounds_toArray]
        try simp only [List.set]
        refine wpAnyH_take (i := 7) (v := ?v35) rfl (by kernel_rfl) (by kernel_rfl) (by kernel_rfl) (fun _ _ _ h => h) (Or.inl ⟨by kernel_rfl, ?h35⟩) hHeld ?_
        case h35 => intro u hSw; clear hSw; go_simp; try with_reducible rfl
        try simp only [List.getElem_toArray]
        try simp only [List.getElem_cons_succ]
        try simp only [List.getElem_cons_zero]
        try simp only [Act.put]
        try simp only [List.setIfInBounds_toArray]
        try simp only [List.set]
        refine wpAnyH_take (i := 8) (v := ?v36) rfl (by kernel_rfl) (by kernel_rfl) (by kernel_rfl) (fun _ _ _ h => h) (Or.inl ⟨by kernel_rfl, ?h36⟩) hHeld ?_
        case h36 => intro u hSw; have z3 := HZ3.out u hSw; clear hSw; go_simp; try with_reducible rfl
        try simp only [List.getElem_toArray]
        try simp only [List.getElem_cons_succ]
        try simp only [List.getElem_cons_zero]
        try simp only [Act.put]
        try simp only [List.setIfInBounds_toArray]
        try simp only [List.set]
        refine wpAnyH_take (i := 9) (v := ?v37) rfl (by kernel_rfl) (by kernel_rfl) (by kernel_rfl) (fun _ _ _ h => h) (Or.inl ⟨by kernel_rfl, ?h37⟩) hHeld ?_
        case h37 => intro u hSw; clear hSw; go_simp; try with_reducible rfl
        try simp only [List.getElem_toArray]
        try simp only [List.getElem_cons_succ]
        try simp only [List.getElem_cons_zero]
        try simp only [Act.put]
        try simp only [List.setIfInBounds_toArray]
        try simp only [List.set]
        refine wpAnyH_take (i := 10) (v := .bool false) rfl (by kernel_rfl) (by kernel_rfl) (by kernel_rfl) (fun _ _ _ h => h) (Or.inl ⟨by kernel_rfl, ?hv13⟩) hHeld ?_
        case hv13 =>
          intro u hSw
          clear hSw hHeld
          go_simp
          try omega
        try simp only [List.getElem_toArray]
        try simp only [List.getElem_cons_succ]
        try simp only [List.getElem_cons_zero]
        try simp only [Act.put]
        try simp only [List.setIfInBounds_toArray]
        try simp only [List.set]
        refine wpAnyH_take (i := 11) (v := .bool false) rfl (by kernel_rfl) (by kernel_rfl) (by kernel_rfl) (fun _ _ _ h => h) (Or.inl ⟨by kernel_rfl, ?hv14⟩) hHeld ?_
        case hv14 =>
          intro u hSw
          clear hSw hHeld
          go_simp
          try omega
        try simp only [List.getElem_toArray]
        try simp only [List.getElem_cons_succ]
        try simp only [List.getElem_cons_zero]
        try simp only [Act.put]
        try simp only [List.setIfInBounds_toArray]
        try simp only [List.set]
        refine wpAnyH_take (i := 12) (v := undef) rfl (by kernel_rfl) (by kernel_rfl) (by kernel_rfl) (fun _ _ _ h => h) (Or.inr ⟨by kernel_rfl, rfl⟩) hHeld ?_
        try simp only [List.getElem_toArray]
        try simp only [List.getElem_cons_succ]
        try simp only [List.getElem_cons_zero]
        try simp only [Act.put]
        try simp only [List.setIfInBounds_toArray]
        try simp only [List.set]
        refine wpAnyH_take (i := 13) (v := undef) rfl (by kernel_rfl) (by kernel_rfl) (by kernel_rfl) (fun _ _ _ h => h) (Or.inr ⟨by kernel_rfl, rfl⟩) hHeld ?_
        try simp only [List.getElem_toArray]
        try simp only [List.getElem_cons_succ]
        try simp only [List.getElem_cons_zero]
        try simp only [Act.put]
        try simp only [List.setIfInBounds_toArray]
        try simp only [List.set]
        refine wpAnyH_take (i := 14) (v := undef) rfl (by kernel_rfl) (by kernel_rfl) (by kernel_rfl) (fun _ _ _ h => h) (Or.inr ⟨by kernel_rfl, rfl⟩) hHeld ?_
        try simp only [List.getElem_toArray]
        try simp only [List.getElem_cons_succ]
        try simp only [List.getElem_cons_zero]
        try simp only [Act.put]
        try simp only [List.setIfInBounds_toArray]
        try simp only [List.set]
        refine wpAnyH_take (i := 15) (v := undef) rfl (by kernel_rfl) (by kernel_rfl) (by kernel_rfl) (fun _ _ _ h => h) (Or.inr ⟨by kernel_rfl, rfl⟩) hHeld ?_
        try simp only [List.getElem_toArray]
        try simp only [List.getElem_cons_succ]
        try simp only [List.getElem_cons_zero]
        try simp only [Act.put]
        try simp only [List.setIfInBounds_toArray]
        try simp only [List.set]
        refine wpAnyH_take (i := 16) (v := undef) rfl (by kernel_rfl) (by kernel_rfl) (by kernel_rfl) (fun _ _ _ h => h) (Or.inr ⟨by kernel_rfl, rfl⟩) hHeld ?_
        try simp only [List.getElem_toArray]
        try simp only [List.getElem_cons_succ]
        try simp only [List.getElem_cons_zero]
        try simp only [Act.put]
        try simp only [List.setIfInBounds_toArray]
        try simp only [List.set]
        refine wpAnyH_take (i := 17) (v := undef) rfl (by kernel_rfl) (by kernel_rfl) (by kernel_rfl) (fun _ _ _ h => h) (Or.inr ⟨by kernel_rfl, rfl⟩) hHeld ?_
        try simp only [List.getElem_toArray]
        try simp only [List.getElem_cons_succ]
        try simp only [List.getElem_cons_zero]
        try simp only [Act.put]
        try simp only [List.setIfInBounds_toArray]
        try simp only [List.set]
        refine wpAnyH_take (i := 18) (v := ?v38) rfl (by kernel_rfl) (by kernel_rfl) (by kernel_rfl) (fun _ _ _ h => h) (Or.inl ⟨by kernel_rfl, ?h38⟩) hHeld ?_
        case h38 => intro u hSw; clear hSw; go_simp; try with_reducible rfl
        try simp only [List.getElem_toArray]
        try simp only [List.getElem_cons_succ]
        try simp only [List.getElem_cons_zero]
        try simp only [Act.put]
        try simp only [List.setIfInBounds_toArray]
        try simp only [List.set]
        refine wpAnyH_take (i := 19) (v := ?v39) rfl (by kernel_rfl) (by kernel_rfl) (by kernel_rfl) (fun _ _ _ h => h) (Or.inl ⟨by kernel_rfl, ?h39⟩) hHeld ?_
        case h39 => intro u hSw; clear hSw; go_simp; try with_reducible rfl
        try simp only [List.getElem_toArray]
        try simp only [List.getElem_cons_succ]
        try simp only [List.getElem_cons_zero]
        try simp only [Act.put]
        try simp only [List.setIfInBounds_toArray]
        try simp only [List.set]
        refine wpAnyH_done (by kernel_rfl) ?_ _
        have g7 := hHeld
        clear hHeld
        go_wp2_with fail
        go_meet
        case rel => exact ⟨by rw [HXn.out], g7⟩
  case rest =>
    obtain ⟨rfl, gz⟩ := hcut
    have gy := gy.trans (gz.mono gy.size)
    have g := g.trans (gz.mono g.size)
    have hO := HOx.out wc gy
    clear gz HZ3 HTb HF HP HAl HCk HL HNB1 htb HLk HKy6
    cases nb
    case true =>
      have HX : Hid (Q = 2 ∧ L0 = []) := by
        have h1 : Q = 2 := by rw [HE4.out, if_pos rfl]
        exact ⟨h1, by rw [HLs.out, if_neg (by rw [h1]; decide)]⟩
      clear HE4
      obtain ⟨o0, o1, of0, of1⟩ := hO
      go_wp2_with fail
      refine bodyPost_ret (v := .agg #[.int .i64 2, .slice none 0 0]) (by simp [results, Try.results26, go_sem, *]) rfl ?_
      rw [HX.out.1, HX.out.2]
      exact nc_bad (below_s2 g hob1 _ _)
    case false =>
      have HX : Hid (Q = 0 ∧ L0 = rr) := by
        have h1 : Q = 0 := by rw [HE4.out, if_neg (by decide)]
        exact ⟨h1, by rw [HLs.out, if_pos h1]⟩
      clear HE4 HLs
      have hnt := HNt.out wc j xid xu xm xl g HXx.out
      obtain ⟨q0, q1, q2, q3, q4, q5, q6, q7, q8, q9⟩ := HBx.out wc gy
      dsimp only at q0 q1 q2 q3 q4 q5 q6 q7 q8 q9
      have lO6 : ob < wc.heap.size := hO.lt
      clear HNt
      go_wp2_with fail
      refine hnt.mono ?_
      rintro e W7 ⟨gb, c7, rfl, g7, hOwA⟩
      have HOA : Hid (OwA wc.heap.size W7 (some ⟨gb, 0, none⟩) (xs.set j ⟨xid, xu ++ [(⟨x0, ⟨xt, xk, xv, xst⟩, x5, ⟨yt, yk, yv, yst⟩⟩ : Chg)], xm, withL xl nk⟩)) := hOwA
      have hO := HOx.out W7 (gy.trans (g7.mono gy.size))
      obtain ⟨o0, o1, of0, of1⟩ := hO
      have hrr : Hid (rr = xs.set j ⟨xid, xu ++ [(⟨x0, ⟨xt, xk, xv, xst⟩, x5, ⟨yt, yk, yv, yst⟩⟩ : Chg)], xm, withL xl nk⟩) := HRR.out
      have hrl : Hid (rr.length = n) := by show _ = _; rw [hrr.out, List.length_set]; exact HN.out
      have T : Turned ob (ob + 1) W7 ((W7.setCell ⟨ob, 0, none⟩ (.int .i64 0)).setCell ⟨ob, 1, none⟩ (.slice (some ⟨gb, 0, none⟩) n c7)) := ((Turned.refl _ _ W7).setCell (p := ⟨ob, 0, none⟩) (Nat.le_refl _) (Nat.lt_succ_self _) _).setCell (p := ⟨ob, 1, none⟩) (Nat.le_refl _) (Nat.lt_succ_self _) _
      have HTt : Hid (Turned ob (ob + 1) W7 ((W7.setCell ⟨ob, 0, none⟩ (.int .i64 0)).setCell ⟨ob, 1, none⟩ (.slice (some ⟨gb, 0, none⟩) n c7))) := T
      have g9 := g.trans (g7.mono g.size)
      clear T hOwA hnt q0 q1 q2 q3 q4 q5 q6 q7 q8 q9
      go_wp2_with fail
      refine bodyPost_ret (v := .agg #[.int .i64 0, .slice (some ⟨gb, 0, none⟩) n c7]) (by simp [results, Try.results26, go_sem, *]) rfl ?_
      rw [HX.out.1, HX.out.2]
      exact ⟨some ⟨gb, 0, none⟩, c7, by rw [hrl.out], below_s2 g9 hob1 _ _, by rw [hrr.out]; exact (HOA.out.low HTt.out lO6).mono g.size⟩

end Go.Proofs.Ytmboclfgldgefaa
