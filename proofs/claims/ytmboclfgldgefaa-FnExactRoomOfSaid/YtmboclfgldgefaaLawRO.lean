/-
  Both RoomOf; the law FnExactRoomOf answers true.
-/
import Derived.Test.YtmboclfgldgefaaLawLO
import Derived.Test.YtmboclfgldgefaaRmo
import Derived.Test.YtmboclfgldgefaaRdw
import Derived.Test.YtmboclfgldgefaaChw
namespace Go.Proofs.Ytmboclfgldgefaa
open Go.ChangeShapes Go.WideShapes Go.RowKit Go.Maps
set_option linter.unusedVariables false
set_option maxRecDepth 20000

def rmQ (rs : List Rw) (xs : List TxV) : Int := if rowsQ rs = 0 then txsQ xs else rowsQ rs
def rmV (rs : List Rw) (xs : List TxV) : Int := if rmQ rs xs = 0 then ((allRK rs xs).length : Int) else 0
theorem txs_few {xs : List TxV} (h : txsQ xs = 0) : xs.length ≤ 4 := by
  unfold txsQ at h
  split at h
  · cases h
  · omega

set_option maxHeartbeats 4000000 in
theorem specRoomOf_any (ra : Option Addr) (rs : List Rw) (rn rc : Nat) (a : Option Addr) (xs : List TxV) (n c : Nat) (w : World) (hrn : rs.length = rn) (hrm : rn ≤ 1048576) (hrs : ∀ r ∈ rs, r.s.size ≤ 1048576) (hrr : Rs rwE 4 w ra rs) (hn : xs.length = n) (hm : n ≤ 1048576) (hs : ∀ x ∈ xs, TxOk 1048576 x) (hr : TxRc w a xs) :
    Calls Try.prog 18 #[.slice ra rn rc, .slice a n c] w fun e w' => e = .returned (.agg #[.int .i64 (rmQ rs xs), .int .i64 (rmV rs xs)]) ∧ Below w.heap.size w w' := by
  have HRf : Hid (∀ V, Below w.heap.size w V → Calls Try.prog 45 #[.slice ra rn rc] V fun e w' => e = .returned (.int .i64 (rowsQ rs)) ∧ Below V.heap.size V w') := fun V hV => l6Rows_any ra rs rn rc V hrn (by omega) (fun r hr => by have := hrs r hr; unfold maxLen; omega) (hrr.below hV (Nat.le_refl _))
  have HF : Hid (∀ V, Below w.heap.size w V → Calls Try.prog 61 #[.slice a n c] V fun e w' => e = .returned (.int .i64 (txsQ xs)) ∧ Below V.heap.size V w') := fun V hV => by
    have h := l10Fault_any a xs n c V hn hm hs (hr.below hV (Nat.le_refl _)).rd
    exact h
  have HL : Hid (∀ V, Below w.heap.size w V → txsQ xs = 0 → Calls Try.prog 62 #[.slice ra rn rc, .slice a n c, .agg #[.int .i64 0, .int .i64 0]] V fun e w' => e = .returned (.int .i64 ((allRK rs xs).length : Nat)) ∧ Below V.heap.size V w') := fun V hV h0 => by
    have h4 : n ≤ 4 := by rw [← hn]; exact txs_few h0
    have h := l10Room_any ra rs rn rc a xs n c 0 0 V hrn hrm (hrr.below hV (Nat.le_refl _)) hn h4 hs (hr.below hV (Nat.le_refl _)).rd
    rw [rm_fold, if_pos rfl] at h
    exact h
  have HE : Hid (rmQ rs xs = if rowsQ rs = 0 then txsQ xs else rowsQ rs) := rfl
  have HV : Hid (rmV rs xs = (if rmQ rs xs = 0 then ((allRK rs xs).length : Int) else 0)) := rfl
  obtain ⟨Q, hQ⟩ : ∃ Q, rmQ rs xs = Q := ⟨_, rfl⟩
  obtain ⟨R, hR⟩ : ∃ R, rmV rs xs = R := ⟨_, rfl⟩
  rw [hQ] at HE HV
  rw [hR] at HV
  rw [hQ, hR]
  clear hrn hrs hrr hn hs hr hQ hR
  generalize txsQ xs = tq at HF HE HL
  generalize rowsQ rs = rq at HRf HE
  generalize (allRK rs xs).length = lq at HL HV
  go_enter Try.func18, Try.ntmps18
  go_upto_region 1 with (fail)
  generalize hY : World.alloc _ _ = Y
  have g : Below w.heap.size w Y := by rw [← hY]; go_grown
  have hO : R2f Y w.heap.size := by rw [← hY]; exact ⟨by simp [go_sem], by simp [go_sem], by simp [go_sem], by simp [go_sem]⟩
  clear hY
  obtain ⟨ob, hob⟩ : ∃ ob, w.heap.size = ob := ⟨_, rfl⟩
  have hob1 : w.heap.size ≤ ob := by omega
  rw [hob] at hO
  simp only [hob]
  have HOB : Hid (w.heap.size = ob) := hob
  clear hob
  go_wp2_with fail
  refine (HRf.out Y g).mono ?_
  rintro e w2 ⟨rfl, g2⟩
  have hO := hO.below g2
  have g := g.trans (g2.mono g.size)
  clear g2 HRf
  by_cases hr0 : rq = 0
  · subst hr0
    have HE : Hid (Q = tq) := by have h := HE.out; show _ = _; simpa using h
    go_wp2_with fail
    refine (HF.out _ g).mono ?_
    rintro e w3 ⟨rfl, g3⟩
    have hO := hO.below g3
    have g := g.trans (g3.mono g.size)
    clear g3 HF
    by_cases h0 : tq = 0
    · subst h0
      have HX : Hid (Q = 0 ∧ R = lq) := ⟨HE.out, by have h1 : Q = 0 := HE.out; have h2 := HV.out; simpa [h1] using h2⟩
      clear HE HV
      have hlk := HL.out _ g rfl
      go_wp2_with fail
      refine hlk.mono ?_
      rintro e w4 ⟨rfl, g4⟩
      have hO := hO.below g4
      have g := g.trans (g4.mono g.size)
      clear hlk g4
      obtain ⟨o0, o1, of0, of1⟩ := hO
      go_wp2_with fail
      refine bodyPost_ret (v := .agg #[.int .i64 0, .int .i64 lq]) (by simp [results, Try.results18, go_sem, *]) rfl ?_
      exact ⟨by rw [HX.out.1, HX.out.2], below_s2 g hob1 _ _⟩
    · have d0 : (tq != 0) = true := by simpa using h0
      have HX : Hid (Q = tq ∧ R = 0) := ⟨HE.out, by rw [HV.out, if_neg (by rw [HE.out]; exact h0)]⟩
      obtain ⟨o0, o1, of0, of1⟩ := hO
      clear HE HV
      go_wp2_with fail
      refine bodyPost_ret (v := .agg #[.int .i64 tq, .int .i64 0]) (by simp [results, Try.results18, go_sem, *]) rfl ?_
      exact ⟨by rw [HX.out.1, HX.out.2], below_s2 g hob1 _ _⟩
  · have d0 : (rq != 0) = true := by simpa using hr0
    have HX : Hid (Q = rq ∧ R = 0) := by
      have h1 : Q = rq := by rw [HE.out, if_neg hr0]
      exact ⟨h1, by rw [HV.out, if_neg (by rw [h1]; exact hr0)]⟩
    obtain ⟨o0, o1, of0, of1⟩ := hO
    clear HE HV
    go_wp2_with fail
    refine bodyPost_ret (v := .agg #[.int .i64 rq, .int .i64 0]) (by simp [results, Try.results18, go_sem, *]) rfl ?_
    exact ⟨by rw [HX.out.1, HX.out.2], below_s2 g hob1 _ _⟩

set_option maxHeartbeats 4000000 in
theorem implRoomOf_any (ra : Option Addr) (rs : List Rw) (rn rc : Nat) (a : Option Addr) (xs : List TxV) (n c : Nat) (w : World) (hrn : rs.length = rn) (hrm : rn ≤ 1048576) (hrs : ∀ r ∈ rs, r.s.size ≤ 1048576) (hrr : Rs rwE 4 w ra rs) (hn : xs.length = n) (hm : n ≤ 1048576) (hs : ∀ x ∈ xs, TxOk 1048576 x) (hr : TxRc w a xs) :
    Calls Try.prog 21 #[.slice ra rn rc, .slice a n c] w fun e w' => e = .returned (.agg #[.int .i64 (rmQ rs xs), .int .i64 (rmV rs xs)]) ∧ Below w.heap.size w w' := by
  have HRf : Hid (∀ V, Below w.heap.size w V → Calls Try.prog 43 #[.slice ra rn rc] V fun e w' => e = .returned (.int .i64 (rowsQ rs)) ∧ Below V.heap.size V w') := fun V hV => implRowsFault_any ra rs rn rc V hrn (by omega) (fun r hr => by have := hrs r hr; unfold maxLen; omega) (hrr.below hV (Nat.le_refl _))
  have HF : Hid (∀ V, Below w.heap.size w V → Calls Try.prog 65 #[.slice a n c] V fun e w' => e = .returned (.int .i64 (txsQ xs)) ∧ Below V.heap.size V w') := fun V hV => by
    have h := implTxsFault_any a xs n c V hn hm hs (hr.below hV (Nat.le_refl _))
    rw [txs_eq] at h
    exact h
  have HL : Hid (∀ V, Below w.heap.size w V → txsQ xs = 0 → Calls Try.prog 66 #[.slice ra rn rc, .slice a n c] V fun e w' => ∃ a' c', e = .returned (.slice a' (allRK rs xs).length c') ∧ Below V.heap.size V w') := fun V hV h0 => by
    have h4 : n ≤ 4 := by rw [← hn]; exact txs_few h0
    have h := keysOf_any ra rs rn rc a xs n c V hrn hrm (hrr.below hV (Nat.le_refl _)) hn h4 hs (hr.below hV (Nat.le_refl _)).rd
    exact h
  have HE : Hid (rmQ rs xs = if rowsQ rs = 0 then txsQ xs else rowsQ rs) := rfl
  have HV : Hid (rmV rs xs = (if rmQ rs xs = 0 then ((allRK rs xs).length : Int) else 0)) := rfl
  obtain ⟨Q, hQ⟩ : ∃ Q, rmQ rs xs = Q := ⟨_, rfl⟩
  obtain ⟨R, hR⟩ : ∃ R, rmV rs xs = R := ⟨_, rfl⟩
  rw [hQ] at HE HV
  rw [hR] at HV
  rw [hQ, hR]
  clear hrn hrs hrr hn hs hr hQ hR
  generalize txsQ xs = tq at HF HE HL
  generalize rowsQ rs = rq at HRf HE
  generalize (allRK rs xs).length = lq at HL HV
  go_enter Try.func21, Try.ntmps21
  go_upto_region 1 with (fail)
  generalize hY : World.alloc _ _ = Y
  have g : Below w.heap.size w Y := by rw [← hY]; go_grown
  have hO : R2f Y w.heap.size := by rw [← hY]; exact ⟨by simp [go_sem], by simp [go_sem], by simp [go_sem], by simp [go_sem]⟩
  clear hY
  obtain ⟨ob, hob⟩ : ∃ ob, w.heap.size = ob := ⟨_, rfl⟩
  have hob1 : w.heap.size ≤ ob := by omega
  rw [hob] at hO
  simp only [hob]
  have HOB : Hid (w.heap.size = ob) := hob
  clear hob
  go_wp2_with fail
  refine (HRf.out Y g).mono ?_
  rintro e w2 ⟨rfl, g2⟩
  have hO := hO.below g2
  have g := g.trans (g2.mono g.size)
  clear g2 HRf
  go_wp2_with fail
  refine (HF.out _ g).mono ?_
  rintro e w3 ⟨rfl, g3⟩
  have hO := hO.below g3
  have g := g.trans (g3.mono g.size)
  clear g3 HF
  have HE : Hid (Q = orI rq tq) := HE.out
  go_wp2_with fail
  refine (or64_any w3.heap.size rq tq _ (by simp [go_sem]) (by simp [go_sem])).mono ?_
  rintro e w4 ⟨rfl, hw⟩
  subst w4
  rw [← HE.out]
  generalize hY : World.alloc _ _ = Y4
  have g4 : Below w3.heap.size w3 Y4 := by rw [← hY]; go_grown
  have hO := hO.below g4
  have g := g.trans (g4.mono g.size)
  clear hY g4
  by_cases h0 : Q = 0
  · have ht : tq = 0 := by
      have h := HE.out
      unfold orI at h
      split at h
      · omega
      · omega
    subst h0
    have HX : Hid (R = lq) := by have h := HV.out; show _ = _; simpa using h
    have hlk := HL.out _ g ht
    clear HE HV
    go_wp2_with fail
    refine hlk.mono ?_
    rintro e w5 ⟨a', c', rfl, g5⟩
    have hO := hO.below g5
    have g := g.trans (g5.mono g.size)
    clear hlk g5
    obtain ⟨o0, o1, of0, of1⟩ := hO
    go_wp2_with fail
    refine bodyPost_ret (v := .agg #[.int .i64 0, .int .i64 lq]) (by simp [results, Try.results21, go_sem, *]) rfl ?_
    exact ⟨by rw [HX.out], below_s2 g hob1 _ _⟩
  · have d0 : (Q != 0) = true := by simpa using h0
    have HX : Hid (R = 0) := by have h := HV.out; rw [if_neg h0] at h; exact h
    obtain ⟨o0, o1, of0, of1⟩ := hO
    clear HE HV
    go_wp2_with fail
    refine bodyPost_ret (v := .agg #[.int .i64 Q, .int .i64 0]) (by simp [results, Try.results21, go_sem, *]) rfl ?_
    exact ⟨by rw [HX.out], below_s2 g hob1 _ _⟩

set_option maxHeartbeats 8000000 in
theorem lawRoomOf_any (ra : Option Addr) (rn rc : Nat) (rs : List Rw) (a : Option Addr) (n c : Nat) (xs : List TxV) (w : World) (hrows : IsRows w ra rn rs) (h : IsTxs w a n xs) :
    Calls Try.prog 4 #[.slice ra rn rc, .slice a n c] w fun e w' => e = .returned (.bool true) ∧ Below w.heap.size w w' := by
  have HR0 : Hid (∀ V, Below w.heap.size w V → TxRd V a xs) := fun V hV => h.rd.below hV (Nat.le_refl _)
  have HRr0 : Hid (∀ V, Below w.heap.size w V → Rs rwE 4 V ra rs) := fun V hV => hrows.rd.below hV (Nat.le_refl _)
  have HN : Hid (xs.length = n) := h.eq
  have HRn : Hid (rs.length = rn) := hrows.eq
  have HI : Hid (∀ V, Below w.heap.size w V → IsTxs V a n xs) := fun V hV => ⟨h.rd.below hV (Nat.le_refl _), h.eq, h.ln, h.ok⟩
  have hsr := szRowS_any ra rs rn rc w 1048576 hrows.eq hrows.ln hrows.sz hrows.rd (by omega) (by omega)
  clear h hrows
  go_enter Try.func4, Try.ntmps4
  go_wp2_with fail
  refine hsr.mono ?_
  rintro e w1 ⟨⟨r1, rfl, hr1, hl1⟩, gA⟩
  clear hsr
  by_cases h1 : r1 < 0
  · go_wp2_with fail
    go_ret
    exact ⟨rfl, gA⟩
  obtain ⟨hrn, hrs⟩ := hl1 (by omega)
  have HRs : Hid (∀ x ∈ rs, x.s.size ≤ 1048576) := hrs
  have h1' : ¬ r1 < 0 := h1
  have hsz := szTxS_any a xs n c w1 r1 (HI.out w1 gA) (by omega) hr1
  clear hl1 hrs h1 HI
  go_wp2_with fail
  refine hsz.mono ?_
  rintro e w2 ⟨⟨r, rfl, hr2, hl⟩, gB⟩
  clear hsz
  have gB := gA.trans (gB.mono gA.size)
  clear gA
  by_cases h0 : r < 0
  · go_wp2_with fail
    go_ret
    exact ⟨rfl, gB⟩
  obtain ⟨hn, hs⟩ := hl (by omega)
  have HS : Hid (∀ x ∈ xs, TxOk 1048576 x) := hs
  have h0' : ¬ r < 0 := h0
  clear hl hs h0
  have HTo : Hid (∀ V, Below w.heap.size w V → Calls Try.prog 20 #[.slice a n c] V fun e w' => e = .returned (.slice (some ⟨V.heap.size, 0, none⟩) n n) ∧ Below V.heap.size V w' ∧ TxRc w' (some ⟨V.heap.size, 0, none⟩) xs) := fun V hV => toTxS_any a xs n c V HN.out hn HS.out (HR0.out V hV)
  have HRo : Hid (∀ V, Below w.heap.size w V → Calls Try.prog 19 #[.slice ra rn rc] V fun e w' => e = .returned (.slice (some ⟨V.heap.size, 0, none⟩) rn rn) ∧ Below V.heap.size V w' ∧ Rs rwE 4 w' (some ⟨V.heap.size, 0, none⟩) rs) := fun V hV => (toRowS_any ra rs rn rc V HRn.out hrn (HRr0.out V hV)).mono fun e w' h => ⟨h.1, h.2.1, h.2.2.reads⟩
  have HSpec : Hid (∀ (b a : Option Addr) (W : World), Rs rwE 4 W b rs → TxRc W a xs → Calls Try.prog 18 #[.slice b rn rn, .slice a n n] W fun e w' => e = .returned (.agg #[.int .i64 (rmQ rs xs), .int .i64 (rmV rs xs)]) ∧ Below W.heap.size W w') := fun b a W h0 h1 => specRoomOf_any b rs rn rn a xs n n W HRn.out hrn HRs.out h0 HN.out hn HS.out h1
  have HImpl : Hid (∀ (b a : Option Addr) (W : World), Rs rwE 4 W b rs → TxRc W a xs → Calls Try.prog 21 #[.slice b rn rn, .slice a n n] W fun e w' => e = .returned (.agg #[.int .i64 (rmQ rs xs), .int .i64 (rmV rs xs)]) ∧ Below W.heap.size W w') := fun b a W h0 h1 => implRoomOf_any b rs rn rn a xs n n W HRn.out hrn HRs.out h0 HN.out hn HS.out h1
  generalize rmQ rs xs = q1 at HSpec HImpl
  generalize rmV rs xs = q2 at HSpec HImpl
  go_wp2_with fail
  refine (HRo.out _ gB).mono ?_
  rintro e w0 ⟨rfl, g0, n0⟩
  have g := gB.trans (g0.mono gB.size)
  clear g0 gB
  generalize w2.heap.size = b0 at n0 ⊢
  go_wp2_with fail
  refine (HTo.out _ g).mono ?_
  rintro e w1' ⟨rfl, g1, n1⟩
  have n0 := n0.below g1 (Nat.le_refl _)
  have g := g.trans (g1.mono g.size)
  clear g1
  generalize w0.heap.size = b1 at n1 ⊢
  go_wp2_with fail
  refine (HSpec.out _ _ _ n0 n1).mono ?_
  rintro e w3 ⟨rfl, g3⟩
  have g := g.trans (g3.mono g.size)
  clear g3 n0 n1
  go_upto_region 9 with (fail)
  generalize hY : World.alloc _ _ = Y3
  have g3' : Below w3.heap.size w3 Y3 := by rw [← hY]; go_grown
  have C3 : R2 Y3 w3.heap.size q1 q2 := by rw [← hY]; exact ⟨by simp [go_sem], by simp [go_sem]⟩
  have g3 := g.trans (g3'.mono g.size)
  clear hY g3' g
  generalize w3.heap.size = b3 at C3 ⊢
  go_wp2_with fail
  refine (HRo.out _ g3).mono ?_
  rintro e w4 ⟨rfl, g4, o4⟩
  have C3 := C3.below g4
  have g := g3.trans (g4.mono g3.size)
  clear g4 g3
  generalize Y3.heap.size = b4 at o4 ⊢
  go_wp2_with fail
  refine (HTo.out _ g).mono ?_
  rintro e w5 ⟨rfl, g5, o5⟩
  have C3 := C3.below g5
  have o4 := o4.below g5 (Nat.le_refl _)
  have g := g.trans (g5.mono g.size)
  clear g5
  generalize w4.heap.size = b5 at o5 ⊢
  go_wp2_with fail
  refine (HImpl.out _ _ _ o4 o5).mono ?_
  rintro e w6 ⟨rfl, g6⟩
  have C3 := C3.below g6
  have o4 := o4.below g6 (Nat.le_refl _)
  have o5 := o5.rd.below g6 (Nat.le_refl _)
  have g := g.trans (g6.mono g.size)
  clear g6
  go_upto_region 12 with (fail)
  generalize hY : World.alloc _ _ = Y7
  have g7 : Below w6.heap.size w6 Y7 := by rw [← hY]; go_grown
  have C7 : R2 Y7 w6.heap.size q1 q2 := by rw [← hY]; exact ⟨by simp [go_sem], by simp [go_sem]⟩
  have C3 := C3.below g7
  have o4 := o4.below g7 (Nat.le_refl _)
  have o5 := o5.below g7 (Nat.le_refl _)
  have g := g.trans (g7.mono g.size)
  clear g7 hY
  generalize w6.heap.size = b7 at C7 ⊢
  obtain ⟨x0, x1⟩ := C3
  obtain ⟨y0, y1⟩ := C7
  go_wp2_with fail
  refine (eqIntResult_same q1 q2 _).mono ?_
  rintro e w8 ⟨rfl, g8⟩
  have o4 := o4.below g8 (Nat.le_refl _)
  have o5 := o5.below g8 (Nat.le_refl _)
  have g := g.trans (g8.mono g.size)
  clear g8 x0 x1 y0 y1
  go_wp2_with fail
  refine (HRo.out _ g).mono ?_
  rintro e w9 ⟨rfl, g9, o9⟩
  have o4 := o4.below g9 (Nat.le_refl _)
  have o5 := o5.below g9 (Nat.le_refl _)
  have g := g.trans (g9.mono g.size)
  clear g9
  generalize w8.heap.size = b9 at o9 ⊢
  go_wp2_with fail
  refine (eqRowS_same _ _ rs rn rn rn _ HRn.out (by omega) o4 o9).mono ?_
  rintro e w10 ⟨rfl, g10⟩
  have o5 := o5.below g10 (Nat.le_refl _)
  have g := g.trans (g10.mono g.size)
  clear g10 o4 o9
  go_wp2_with fail
  refine (HTo.out _ g).mono ?_
  rintro e w11 ⟨rfl, g11, o11⟩
  have o5 := o5.below g11 (Nat.le_refl _)
  have g := g.trans (g11.mono g.size)
  clear g11
  generalize w10.heap.size = b11 at o11 ⊢
  go_wp2_with fail
  refine (eqTxS_same _ _ xs n n n _ HN.out HS.out (by omega) o5 o11.rd).mono ?_
  rintro e w12 ⟨rfl, g12⟩
  have g := g.trans (g12.mono g.size)
  clear g12 o5 o11
  go_wp2_with fail
  go_ret
  exact ⟨rfl, g⟩

end Go.Proofs.Ytmboclfgldgefaa

