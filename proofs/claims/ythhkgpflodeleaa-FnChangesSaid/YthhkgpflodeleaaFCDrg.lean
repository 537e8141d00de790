/-
  The draw of two lists of rows: DrawChangesOf.
-/
import Derived.Test.YthhkgpflodeleaaFCDrf
import Derived.Test.YthhkgpflodeleaaFCHlp
import Derived.Test.YthhkgpflodeleaaFCHlq
import Derived.Test.YthhkgpflodeleaaFCChg

namespace Go.Proofs.Ythhkgpflodeleaa
open Go.RowKit Go.Maps
set_option linter.unusedVariables false
set_option maxRecDepth 20000

theorem Rs.low {w w' : World} {g B : Nat} {xs : List Rw} (h : Rs rwE 4 w (some ⟨g, 0, none⟩) xs) (hb : Below B w w') (hg : g < B) : Rs rwE 4 w' (some ⟨g, 0, none⟩) xs := by
  rcases h with h | ⟨b, off, e, hc⟩
  · exact .inl h
  · cases e
    exact .inr ⟨_, _, rfl, fun i x hx l u hu => (hb.cell (p := ⟨g, 0 + i * 4 + l, none⟩) hg).trans (hc i x hx l u hu)⟩
/-- Two lists of rows that are drawn: few where neither has a fault. -/
def P2 (bs az : List Rw) : Prop := bs.length ≤ 61 ∧ az.length ≤ 61 ∧ (∀ r ∈ bs, r.s.size ≤ 9) ∧ (∀ r ∈ az, r.s.size ≤ 9) ∧ (rowsQ bs = 0 → rowsQ az = 0 → bs.length ≤ 7 ∧ az.length ≤ 7)
theorem BentR.few {bs : List Rw} (h : BentR bs) (hq : rowsQ bs = 0) : bs.length ≤ 7 := by
  have := (rowsQ_zero hq).1
  unfold BentR at h
  omega
theorem BentR.le {bs : List Rw} (h : BentR bs) : bs.length ≤ 61 := by unfold BentR at h; omega
theorem P2.both {bs az : List Rw} (h : BentR bs) (h' : BentR az) (hs : ∀ r ∈ bs, r.s.size ≤ 9) (hs' : ∀ r ∈ az, r.s.size ≤ 9) : P2 bs az := ⟨h.le, h'.le, hs, hs', fun q q' => ⟨h.few q, h'.few q'⟩⟩
theorem P2.rest {bs l : List Rw} {x y : Rw} (h : BentR bs) (hs : ∀ r ∈ bs, r.s.size ≤ 9) (hd : bs.drop 1 = x :: l) (hy : y.s = x.s) : P2 bs (y :: l) := by
  have hl := congrArg List.length hd
  rw [List.length_drop, List.length_cons] at hl
  have hm : ∀ r ∈ bs.drop 1, r.s.size ≤ 9 := fun r hr => hs r (List.mem_of_mem_drop hr)
  rw [hd] at hm
  have := h.le
  refine ⟨h.le, by rw [List.length_cons]; omega, hs, fun r hr => ?_, fun q _ => ⟨h.few q, by have := h.few q; rw [List.length_cons]; omega⟩⟩
  rcases List.mem_cons.1 hr with rfl | hr
  · rw [hy]; exact hm x (by simp)
  · exact hm r (by simp [hr])
theorem P2.rest0 {bs : List Rw} (h : BentR bs) (hs : ∀ r ∈ bs, r.s.size ≤ 9) (hd : bs.drop 1 = []) : P2 bs [] :=
  ⟨h.le, by simp, hs, by simp, fun q _ => ⟨h.few q, by simp⟩⟩

set_option maxHeartbeats 4000000 in
theorem drawChangesOf_any (a : Option Addr) (n c : Nat) (zs : List Int) (w : World) (rd : Reads w a zs) (hn : zs.length = n) (hm : n ≤ 1048576) (hz : ∀ z ∈ zs, 0 ≤ z ∧ z ≤ 255) :
    Calls Try.prog 5 #[.slice a n c] w fun e w' => ∃ ga ca bs gb cb az, e = .returned (.tuple #[.slice (some ⟨ga, 0, none⟩) bs.length ca, .slice (some ⟨gb, 0, none⟩) az.length cb]) ∧ P2 bs az ∧ Rs rwE 4 w' (some ⟨ga, 0, none⟩) bs ∧ Rs rwE 4 w' (some ⟨gb, 0, none⟩) az ∧ Below w.heap.size w w' := by
  go_enter Try.func5, Try.ntmps5
  go_wp2_with fail
  refine (l1Source_any a n c zs w rd hn hm hz).mono ?_
  rintro e w1 ⟨rfl, g1, hl1, hS1⟩
  obtain ⟨b, hb⟩ : ∃ b, b = w.heap.size := ⟨_, rfl⟩
  rw [← hb] at hS1 hl1 ⊢
  have hb1 : w.heap.size ≤ b := by omega
  clear hb rd
  go_wp2_with fail
  refine (l6BentRows_any b a n c zs 0 _ hS1 (by omega)).mono ?_
  rintro e w2 ⟨⟨v, rfl, hG⟩, T2, j, hj, hS2⟩
  have hj0 := hS2.i0
  go_wp2_with fail
  refine (l1Chance_any b a n c zs j 2 _ hS2 (by omega) (by omega) (by omega)).mono ?_
  rintro e w3 ⟨⟨r, rfl⟩, T3, hS3⟩
  have hG := hG.src T3 (by omega)
  have T := T2.trans T3
  have hs13 := T.size
  have g3 : Below w.heap.size w w3 := g1.trans (T.toBelow g1.size hb1)
  have hs1 := g1.size
  clear T T2 T3 hS1 hS2 g1
  obtain ⟨ga, ca, bs, rfl, hP, hss, ho⟩ := hG
  have HP : Hid (BentR bs) := hP
  have HS : Hid (∀ r ∈ bs, r.s.size ≤ 9) := hss
  obtain ⟨n0, hn0⟩ : ∃ m, bs.length = m := ⟨_, rfl⟩
  have HL : Hid (bs.length = n0) := hn0
  rw [hn0] at ho ⊢
  have hn61 : n0 ≤ 61 := by rw [← hn0]; exact hP.le
  clear hn0 hP hss
  cases r
  case false =>
    go_wp2_with fail
    refine (l6BentRows_any b a n c zs (j + 1) _ hS3 (by omega)).mono ?_
    rintro e w4 ⟨⟨v4, rfl, hG4⟩, T4, j4, hj4, hS4⟩
    have hoA := ownsRow_src ho T4 (by omega)
    obtain ⟨gb, cb, az, rfl, hP4, hs4, ho4⟩ := hG4
    have g4 := g3.trans (T4.toBelow g3.size (by omega))
    have hRA : Rs rwE 4 w4 (some ⟨ga, 0, none⟩) bs := by
      obtain ⟨a', c', e', -, hin, -⟩ := SlIn.ofRow rwE_len (by rw [HL.out]; exact hoA)
      rw [HL.out] at e'
      cases e'
      exact hin.reads
    have hRB : Rs rwE 4 w4 (some ⟨gb, 0, none⟩) az := by
      obtain ⟨a', c', e', -, hin, -⟩ := SlIn.ofRow rwE_len ho4
      cases e'
      exact hin.reads
    have HF : Hid (P2 bs az ∧ Rs rwE 4 w4 (some ⟨ga, 0, none⟩) bs ∧ Rs rwE 4 w4 (some ⟨gb, 0, none⟩) az ∧ Below w.heap.size w w4) := ⟨P2.both HP.out hP4 HS.out hs4, hRA, hRB, g4⟩
    have HL2 : Hid (bs.length = n0) := HL.out
    clear hRA hRB hoA ho4 g4 T4 hS4 hS3 ho hP4 hs4
    generalize hm0 : az.length = m0
    have HM : Hid (az.length = m0) := hm0
    clear hm0
    go_wp2_with fail
    refine bodyPost_ret (v := .tuple #[.slice (some ⟨ga, 0, none⟩) n0 ca, .slice (some ⟨gb, 0, none⟩) m0 cb]) (by simp [results, Try.results5, go_sem]) rfl ?_
    exact ⟨ga, ca, bs, gb, cb, az, by rw [HL2.out, HM.out], HF.out⟩
  case true =>
    by_cases hpos : 0 < n0
    case neg =>
      have hn00 : ¬ (0 : Int) < (n0 : Int) := by omega
      go_wp2_with fail
      refine (l6BentRows_any b a n c zs (j + 1) _ hS3 (by omega)).mono ?_
      rintro e w4 ⟨⟨v4, rfl, hG4⟩, T4, j4, hj4, hS4⟩
      have hoA := ownsRow_src ho T4 (by omega)
      obtain ⟨gb, cb, az, rfl, hP4, hs4, ho4⟩ := hG4
      have g4 := g3.trans (T4.toBelow g3.size (by omega))
      have hRA : Rs rwE 4 w4 (some ⟨ga, 0, none⟩) bs := by
        obtain ⟨a', c', e', -, hin, -⟩ := SlIn.ofRow rwE_len (by rw [HL.out]; exact hoA)
        rw [HL.out] at e'
        cases e'
        exact hin.reads
      have hRB : Rs rwE 4 w4 (some ⟨gb, 0, none⟩) az := by
        obtain ⟨a', c', e', -, hin, -⟩ := SlIn.ofRow rwE_len ho4
        cases e'
        exact hin.reads
      have HF : Hid (P2 bs az ∧ Rs rwE 4 w4 (some ⟨ga, 0, none⟩) bs ∧ Rs rwE 4 w4 (some ⟨gb, 0, none⟩) az ∧ Below w.heap.size w w4) := ⟨P2.both HP.out hP4 HS.out hs4, hRA, hRB, g4⟩
      have HL2 : Hid (bs.length = n0) := HL.out
      clear hRA hRB hoA ho4 g4 T4 hS4 hS3 ho hP4 hs4
      generalize hm0 : az.length = m0
      have HM : Hid (az.length = m0) := hm0
      clear hm0
      go_wp2_with fail
      refine bodyPost_ret (v := .tuple #[.slice (some ⟨ga, 0, none⟩) n0 ca, .slice (some ⟨gb, 0, none⟩) m0 cb]) (by simp [results, Try.results5, go_sem]) rfl ?_
      exact ⟨ga, ca, bs, gb, cb, az, by rw [HL2.out, HM.out], HF.out⟩
    case pos =>
      have hn01 : (0 : Int) < (n0 : Int) := by omega
      obtain ⟨a', c', e', hcap, hin, _⟩ := SlIn.ofRow rwE_len (by rw [HL.out]; exact ho)
      rw [HL.out] at e' hcap
      cases e'
      have hRA := hin.reads
      have hD := hRA.drop 1
      rw [Nat.zero_add] at hD
      have hD' : Rs rwE 4 w3 (some ⟨ga, 4, none⟩) (bs.drop 1) := hD
      have HD0 : Hid ((bs.drop 1).length = n0 - 1) := by show _ = _; rw [List.length_drop, HL.out]
      have HPR : Hid ((bs.drop 1 = [] → P2 bs []) ∧ ∀ x y l, bs.drop 1 = x :: l → y.s = x.s → P2 bs (y :: l)) := ⟨P2.rest0 HP.out HS.out, fun x y l => P2.rest HP.out HS.out⟩
      clear hD
      generalize bs.drop 1 = ds at hD' HD0 HPR
      clear hin
      have HGA : Hid (ga < w3.heap.size) := (World.ownsRow.lt ho ga rfl).2
      have hL : (w3.alloc (.cells #[] 44)).ownsRow w3.heap.size 44 4 (.slice (some ⟨w3.heap.size, 0, none⟩) 0 0) ([] : List Rw).length (flat rwE []) := ownsRow_lit0 w3 44 4
      have gL : Below w3.heap.size w3 (w3.alloc (.cells #[] 44)) := (Below.refl _ _).alloc (Nat.le_refl _) _
      have HD1 : Hid (ds.length = n0 - 1) := HD0.out
      have hn1 : Hid (([] : List Rw).length + ds.length ≤ 100000000) := by show _ ≤ _; rw [HD1.out, List.length_nil]; omega
      have hn2 : Hid (w3.heap.size ≤ (w3.alloc (.cells #[] 44)).heap.size) := by show _ ≤ _; simp
      by_cases hc : ca = 1
      case pos =>
        subst hc
        have hn1' : n0 = 1 := by omega
        subst hn1'
        have hd0 : ds = [] := List.length_eq_zero_iff.1 (by rw [HD1.out])
        subst hd0
        have hD2 : Rs rwE 4 (w3.alloc (.cells #[] 44)) (some ⟨ga, 0, none⟩) [] := .inl rfl
        go_wp2_with (at_builtin; refine wpList_append_sl elW _ rfl _ _ rfl w3.heap.size _ [] [] (some ⟨ga, 0, none⟩) 0 0 rfl rfl HD1.out hL hD2 hn1.out hn2.out ?_)
        intro v5 w5 ho5 hg5 hbk
        have gA : Below w3.heap.size w3 w5 := Below.grown gL hg5 (by simp) (fun q e => (World.ownsRow.lt hL q e).1)
        obtain ⟨kg, kc, rfl⟩ := ownsRow_some ho5 (by rcases hbk with h | h <;> rw [h] <;> simp [Value.ownBlock])
        have ho5 : w5.ownsRow w3.heap.size 44 4 (.slice (some ⟨kg, 0, none⟩) 0 kc) 0 (flat rwE []) := ho5
        have hoA := ownsRow_below ho gA
        have g5 := g3.trans (gA.mono g3.size)
        have hS5 := hS3.below gA
        have hs35 := gA.size
        have HL2 : Hid (bs.length = 1) := HL.out
        try simp only [List.nil_append, List.length_append, List.length_nil, Nat.zero_add]
        clear hL gL hn1 hn2 hD' hD2 hg5 hbk hRA ho gA hS3 HD1
        go_wp2_with fail
        refine bodyPost_ret (v := .tuple #[.slice (some ⟨ga, 0, none⟩) 1 1, .slice (some ⟨kg, 0, none⟩) 0 kc]) (by simp [results, Try.results5, go_sem]) rfl ?_
        refine ⟨ga, 1, bs, kg, kc, [], by rw [HL2.out]; rfl, HPR.out.1 (by trivial), ?_, .inl rfl, g5⟩
        obtain ⟨a', c', e', -, hin, -⟩ := SlIn.ofRow rwE_len (by rw [HL2.out]; exact hoA)
        rw [HL2.out] at e'
        cases e'
        exact hin.reads
      case neg =>
        have h1 : ¬ ca - 1 = 0 := by omega
        have h2 : ¬ ca ≤ 1 := by omega
        have hD2 : Rs rwE 4 (w3.alloc (.cells #[] 44)) (some ⟨ga, 4, none⟩) ds := hD'.below gL (Nat.le_refl _)
        go_wp2_with (at_builtin; refine wpList_append_sl elW _ rfl _ _ rfl w3.heap.size _ [] ds (some ⟨ga, 4, none⟩) (n0 - 1) (ca - 1) rfl rfl HD1.out hL hD2 hn1.out hn2.out ?_)
        intro v5 w5 ho5 hg5 hbk
        have gA : Below w3.heap.size w3 w5 := Below.grown gL hg5 (by simp) (fun q e => (World.ownsRow.lt hL q e).1)
        obtain ⟨kg, kc, rfl⟩ := ownsRow_some ho5 (by rcases hbk with h | h <;> rw [h] <;> simp [Value.ownBlock])
        have ho5 : w5.ownsRow w3.heap.size 44 4 (.slice (some ⟨kg, 0, none⟩) ds.length kc) ds.length (flat rwE ds) := ho5
        have hoA := ownsRow_below ho gA
        have g5 := g3.trans (gA.mono g3.size)
        have hS5 := hS3.below gA
        have hs35 := gA.size
        have HL2 : Hid (bs.length = n0) := HL.out
        try simp only [List.nil_append, List.length_append, List.length_nil, Nat.zero_add]
        clear hL gL hn1 hn2 hD' hD2 hg5 hbk hRA ho gA hS3 HD1
        cases ds with
        | nil =>
          simp only [List.length_nil] at ho5 ⊢
          go_wp2_with fail
          refine bodyPost_ret (v := .tuple #[.slice (some ⟨ga, 0, none⟩) n0 ca, .slice (some ⟨kg, 0, none⟩) 0 kc]) (by simp [results, Try.results5, go_sem]) rfl ?_
          refine ⟨ga, ca, bs, kg, kc, [], by rw [HL2.out]; rfl, HPR.out.1 (by trivial), ?_, .inl rfl, g5⟩
          obtain ⟨a', c', e', -, hin, -⟩ := SlIn.ofRow rwE_len (by rw [HL2.out]; exact hoA)
          rw [HL2.out] at e'
          cases e'
          exact hin.reads
        | cons x l =>
          obtain ⟨m, hm0⟩ : ∃ m, l.length + 1 = m := ⟨_, rfl⟩
          simp only [List.length_cons] at ho5 ⊢
          rw [hm0] at ho5 ⊢
          have HM : Hid (l.length + 1 = m) := hm0
          have hmi : (0 : Int) < (m : Int) := by omega
          have hmn : 0 < m := by omega
          clear hm0
          go_wp2_with fail
          refine (l1Next_any b a n c zs (j + 1) 9 _ hS5 (by omega) (by omega) (by omega)).mono ?_
          rintro e w6 ⟨⟨r6, rfl, _, _⟩, t6, hS6⟩
          have ho6 := ownsRow_src ho5 t6 (by omega)
          have hoA := ownsRow_src hoA t6 (by omega)
          have g6 := g5.trans (t6.toBelow g5.size hb1)
          obtain ⟨a', c', e', -, hin, -⟩ := SlIn.ofRow (xs := x :: l) rwE_len (by rw [List.length_cons, HM.out]; exact ho6)
          rw [List.length_cons, HM.out] at e'
          cases e'
          have hq : w6.cell? ⟨kg, 2, none⟩ = some (.int .i64 x.v) ∧ w6.frozen? ⟨kg, 2, none⟩ = false := by
            rcases hin with h | ⟨b', off', e', h1, h2, hcs⟩
            · simp at h
            · cases e'
              exact hcs 0 x rfl 2 _ rfl
          obtain ⟨q2, f2⟩ := hq
          have hkl := (World.ownsRow.lt ho6 kg rfl)
          have HZ : Hid (Rs rwE 4 (w6.setCell ⟨kg, 2, none⟩ (.int .i64 r6)) (some ⟨kg, 0, none⟩) (⟨x.t, x.k, r6, x.s⟩ :: l)) := by
            have S := (SlIn.setG hin rwE_len (x := x) (x' := ⟨x.t, x.k, r6, x.s⟩) (i := 0) (c := 2) (v := .int .i64 r6) rfl (by omega) rfl).reads
            exact S
          have hbl : Below w3.heap.size w6 (w6.setCell ⟨kg, 2, none⟩ (.int .i64 r6)) := by go_grown
          have HG : Hid (Below w.heap.size w (w6.setCell ⟨kg, 2, none⟩ (.int .i64 r6))) := g6.trans (hbl.mono g3.size)
          have hga := (World.ownsRow.lt hoA ga rfl)
          have HA : Hid (Rs rwE 4 (w6.setCell ⟨kg, 2, none⟩ (.int .i64 r6)) (some ⟨ga, 0, none⟩) bs) := by
            obtain ⟨a', c', e', -, hin, -⟩ := SlIn.ofRow rwE_len (by rw [HL2.out]; exact hoA)
            rw [HL2.out] at e'
            cases e'
            refine Rs.low hin.reads hbl HGA.out
          clear ho5 ho6 hoA g5 g6 hin hbl t6 hS5 hS6
          go_wp2_with fail
          refine bodyPost_ret (v := .tuple #[.slice (some ⟨ga, 0, none⟩) n0 ca, .slice (some ⟨kg, 0, none⟩) m kc]) (by simp [results, Try.results5, go_sem]) rfl ?_
          exact ⟨ga, ca, bs, kg, kc, ⟨x.t, x.k, r6, x.s⟩ :: l, by rw [HL2.out, List.length_cons, HM.out], HPR.out.2 _ _ _ rfl rfl, HA.out, HZ.out, HG.out⟩

end Go.Proofs.Ythhkgpflodeleaa
