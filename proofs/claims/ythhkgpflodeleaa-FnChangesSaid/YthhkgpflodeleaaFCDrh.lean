/-
  The draw of rows and changes: DrawApplyChanges.
-/
import Derived.Test.YthhkgpflodeleaaFCDrg
import Derived.Test.YthhkgpflodeleaaFCMch

namespace Go.Proofs.Ythhkgpflodeleaa
open Go.RowKit Go.Maps
set_option linter.unusedVariables false
set_option maxRecDepth 20000

/-- Changes whose texts are short. -/
def ShC (cs : List Chg) : Prop := ∀ c ∈ cs, c.b.s.size ≤ 9 ∧ c.a.s.size ≤ 9
theorem chL_short {bs az ks : List Rw} (h : ∀ r ∈ bs, r.s.size ≤ 9) (h' : ∀ r ∈ az, r.s.size ≤ 9) : ShC (chL bs az ks) := by
  intro c hc
  obtain ⟨r, _, hk⟩ := List.mem_filterMap.1 hc
  unfold chK at hk
  obtain ⟨hk, _⟩ := Option.filter_eq_some_iff.1 hk
  have hz : zR.s.size ≤ 9 := by decide
  unfold chAt at hk
  split at hk
  · cases hk
  · rename_i b h1 _; cases hk; exact ⟨h _ (fR_mem h1).1, hz⟩
  · rename_i a _ h2; cases hk; exact ⟨hz, h' _ (fR_mem h2).1⟩
  · rename_i b a h1 h2; cases hk; exact ⟨h _ (fR_mem h1).1, h' _ (fR_mem h2).1⟩

/-- What the draw hands back. -/
def DhP (w w' : World) (va vl : Option Addr) (rs : List Rw) (cs : List Chg) : Prop := rs.length ≤ 61 ∧ cs.length ≤ 20 ∧ (∀ r ∈ rs, r.s.size ≤ 9) ∧ ShC cs ∧ Rs rwE 4 w' va rs ∧ Rs chE 10 w' vl cs ∧ Below w.heap.size w w'

set_option maxHeartbeats 4000000 in
theorem drawApplyChanges_any (a : Option Addr) (n c : Nat) (zs : List Int) (w : World) (rd : Reads w a zs) (hn : zs.length = n) (hm : n ≤ 1048576) (hz : ∀ z ∈ zs, 0 ≤ z ∧ z ≤ 255) :
    Calls Try.prog 10 #[.slice a n c] w fun e w' => ∃ va ca rs vl cl cs, e = .returned (.tuple #[.slice va rs.length ca, .slice vl cs.length cl]) ∧ DhP w w' va vl rs cs := by
  go_enter Try.func10, Try.ntmps10
  go_wp2_with fail
  refine (l1Source_any a n c zs w rd hn hm hz).mono ?_
  rintro e w1 ⟨rfl, g1, hl1, hS1⟩
  obtain ⟨b, hb⟩ : ∃ b, b = w.heap.size := ⟨_, rfl⟩
  rw [← hb] at hS1 hl1 ⊢
  have hb1 : w.heap.size ≤ b := by omega
  clear hb rd
  go_wp2_with fail
  refine (l6DrawRows_any b a n c zs 0 _ hS1 (by omega)).mono ?_
  rintro e w2 ⟨⟨v, rfl, hG⟩, T2, j, hj, hS2⟩
  have hj0 := hS2.i0
  have hs1 := g1.size
  have hs2 := T2.size
  have g2 := g1.trans (T2.toBelow g1.size hb1)
  clear g1 T2 hS1
  obtain ⟨ga, ca, rs, rfl, hP, hss, ho⟩ := hG
  obtain ⟨n0, hn0⟩ : ∃ m, rs.length = m := ⟨_, rfl⟩
  have HN0 : Hid (rs.length = n0) := hn0
  rw [hn0] at ho ⊢
  have hn6 : n0 ≤ 6 := by rw [← hn0]; exact hP.1
  have HSo : Hid (rs.Pairwise rLt) := hP.2
  have HS : Hid (∀ r ∈ rs, r.s.size ≤ 9) := hss
  clear hn0 hP hss
  go_wp2_with fail
  refine (l6DrawRows_any b a n c zs j _ hS2 (by omega)).mono ?_
  rintro e w3 ⟨⟨v, rfl, hG⟩, T3, j3, hj3, hS3⟩
  have hj30 := hS3.i0
  have hs3 := T3.size
  have g3 := g2.trans (T3.toBelow g2.size hb1)
  have ho := ownsRow_src ho T3 (by omega)
  have HGA : Hid (ga < w3.heap.size) := (World.ownsRow.lt ho ga rfl).2
  clear g2 T3 hS2
  obtain ⟨gb, cb, az, rfl, hP, hss, hob⟩ := hG
  obtain ⟨m1, hm1⟩ : ∃ m, az.length = m := ⟨_, rfl⟩
  have HN1 : Hid (az.length = m1) := hm1
  rw [hm1] at hob ⊢
  have hn61 : m1 ≤ 6 := by rw [← hm1]; exact hP.1
  have HSo1 : Hid (az.Pairwise rLt) := hP.2
  have HS1 : Hid (∀ r ∈ az, r.s.size ≤ 9) := hss
  clear hm1 hP hss
  have hRa : Rs rwE 4 w3 (some ⟨ga, 0, none⟩) rs := by
    obtain ⟨a', c', e', -, hin, -⟩ := SlIn.ofRow rwE_len (by rw [HN0.out]; exact ho)
    rw [HN0.out] at e'
    cases e'
    exact hin.reads
  have hRb : Rs rwE 4 w3 (some ⟨gb, 0, none⟩) az := by
    obtain ⟨a', c', e', -, hin, -⟩ := SlIn.ofRow rwE_len (by rw [HN1.out]; exact hob)
    rw [HN1.out] at e'
    cases e'
    exact hin.reads
  have hcon := l6Changes_any (some ⟨ga, 0, none⟩) (some ⟨gb, 0, none⟩) rs az n0 m1 ca cb w3 HN0.out HN1.out (by omega) (by omega) HSo.out HSo1.out hRa hRb
  clear hRb hob
  go_wp2_with (go_at_call 21; refine hcon.mono ?_)
  rintro e w4 ⟨v, ks, rfl, g4, hol, hk⟩
  have hlen := chL_len rs az ks
  have hkl := hk.len
  have HSh : Hid (ShC (chL rs az ks)) := chL_short HS.out HS1.out
  have hc12 : (chL rs az ks).length ≤ 12 := by rw [HN0.out, HN1.out] at hkl; omega
  generalize chL rs az ks = cs at hol HSh hc12
  have ho := ownsRow_below ho g4
  have hS4 := hS3.below g4
  have hs4 := g4.size
  have g4 := g3.trans (g4.mono g3.size)
  clear hcon hlen hkl hk hRa g3 hS3
  obtain ⟨m0, hm0⟩ : ∃ m, cs.length = m := ⟨_, rfl⟩
  have HM0 : Hid (cs.length = m0) := hm0
  obtain ⟨vl, cl, rfl, -⟩ := SlIn.ofRow chE_len hol
  rw [hm0] at hol hc12 ⊢
  clear hm0
  go_wp2_with fail
  refine (l1Next_any b a n c zs j3 8 _ hS4 (by omega) (by omega) (by omega)).mono ?_
  rintro e w5 ⟨⟨r, rfl, hr0, hr1⟩, T5, hS5⟩
  have ho := ownsRow_src ho T5 (by omega)
  have hol := ownsRow_src hol T5 (by omega)
  have hs5 := T5.size
  have g5 := g4.trans (T5.toBelow g4.size hb1)
  clear g4 T5 hS4
  by_cases h0 : r = 0
  case pos =>
    subst h0
    go_wp2_with fail
    refine (l1Chance_any b a n c zs (j3 + 1) 2 _ hS5 (by omega) (by omega) (by omega)).mono ?_
    rintro e w6 ⟨⟨q1, rfl⟩, T6, hS6⟩
    clear hS5
    go_wp2_with fail
    refine (l1Bent_any b a n c zs (j3 + 1 + 1) _ hS6 (by omega)).mono ?_
    rintro e w7 ⟨⟨bt, bk, bv, bs, rfl, hbs⟩, T7, j7, hj7, hS7⟩
    have T7 := T6.trans T7
    clear hS6 T6
    have hj70 := hS7.i0
    go_wp2_with fail
    refine (l1Chance_any b a n c zs j7 2 _ hS7 (by omega) (by omega) (by omega)).mono ?_
    rintro e w8 ⟨⟨q2, rfl⟩, T8, hS8⟩
    have T8 := T7.trans T8
    clear hS7 T7
    go_wp2_with fail
    refine (l1Bent_any b a n c zs (j7 + 1) _ hS8 (by omega)).mono ?_
    rintro e w9 ⟨⟨at', ak, av, as', rfl, has⟩, T9, j9, hj9, hS9⟩
    have T9 := T8.trans T9
    have ho := ownsRow_src ho T9 (by omega)
    have hol := ownsRow_src hol T9 (by omega)
    have hs9 := T9.size
    have g9 := g5.trans (T9.toBelow g5.size hb1)
    clear T9 T8 hS8 hS9 g5
    have hlen : cs.length + 1 ≤ 100000000 := by rw [HM0.out]; omega
    have hlow : ∀ k, (Value.slice vl m0 cl).ownBlock = some k → w3.heap.size ≤ k := fun k hk => (hol.lt k hk).1
    have hol' : w9.ownsRow w3.heap.size 51 10 (.slice vl m0 cl) cs.length (flat chE cs) := by rw [HM0.out]; exact hol
    go_wp2_with (at_builtin; refine wpList_append_sl elC _ rfl _ _ rfl w3.heap.size _ cs [(⟨q1, ⟨bt, bk, bv, bs⟩, q2, ⟨at', ak, av, as'⟩⟩ : Chg)] (some ⟨w9.heap.size, 0, none⟩) 1 1 rfl rfl rfl (ownsRow_below hol' (by go_grown)) (rs_one (enc := chE) w9 ⟨q1, ⟨bt, bk, bv, bs⟩, q2, ⟨at', ak, av, as'⟩⟩ 51) hlen (by simp; omega) ?_)
    intro v' w' ho' hg' hbk
    have gA : Below w3.heap.size w9 w' := Below.grown ((Below.refl w3.heap.size w9).alloc (by omega) _) hg' (by simp; omega) hlow
    have gw : Below w.heap.size w w' := g9.trans (gA.mono (by omega))
    have hga := (World.ownsRow.lt ho ga rfl)
    have hRa : Rs rwE 4 w' (some ⟨ga, 0, none⟩) rs := by
      obtain ⟨a', c', e', -, hin, -⟩ := SlIn.ofRow rwE_len (by rw [HN0.out]; exact ho)
      rw [HN0.out] at e'
      cases e'
      exact Rs.low hin.reads gA HGA.out
    obtain ⟨va', ca', rfl, -, hin', -⟩ := SlIn.ofRow (xs := cs ++ [(⟨q1, ⟨bt, bk, bv, bs⟩, q2, ⟨at', ak, av, as'⟩⟩ : Chg)]) chE_len (by rw [List.length_append]; exact ho')
    have HF : Hid (DhP w w' (some ⟨ga, 0, none⟩) va' rs (cs ++ [(⟨q1, ⟨bt, bk, bv, bs⟩, q2, ⟨at', ak, av, as'⟩⟩ : Chg)])) := ⟨by rw [HN0.out]; omega, by rw [List.length_append, HM0.out]; simp; omega, HS.out, fun x hx => by
      rcases List.mem_append.1 hx with h | h
      · exact HSh.out x h
      · simp only [List.mem_singleton] at h; rw [h]; exact ⟨hbs, has⟩, hRa, hin'.reads, gw⟩
    have HML : Hid ((cs ++ [(⟨q1, ⟨bt, bk, bv, bs⟩, q2, ⟨at', ak, av, as'⟩⟩ : Chg)]).length = m0 + 1) := by show _ = _; rw [List.length_append, HM0.out]; rfl
    clear hol hol' ho ho' hg' hbk gA gw hRa hin' g9
    generalize cs ++ [(⟨q1, ⟨bt, bk, bv, bs⟩, q2, ⟨at', ak, av, as'⟩⟩ : Chg)] = ds at HF HML ⊢
    have HML2 : Hid (ds.length = m0 + 1) := HML.out
    rw [HML.out]
    go_wp2_with fail
    refine bodyPost_ret (v := .tuple #[.slice (some ⟨ga, 0, none⟩) n0 ca, .slice va' (m0 + 1) ca']) (by simp [results, Try.results10, go_sem]) rfl ?_
    exact ⟨some ⟨ga, 0, none⟩, ca, rs, va', ca', ds, by rw [HN0.out, HML2.out], HF.out⟩
  case neg =>
    have hRl : Rs chE 10 w5 vl cs := by
      obtain ⟨a', c', e', -, hin, -⟩ := SlIn.ofRow chE_len (by rw [HM0.out]; exact hol)
      rw [HM0.out] at e'
      cases e'
      exact hin.reads
    have hll : ∀ k, (Value.slice vl m0 cl).ownBlock = some k → w3.heap.size ≤ k := fun k hk => (hol.lt k hk).1
    by_cases h1 : r = 1
    case pos =>
      subst h1
      go_wp2_with fail
      refine (l6BentRows_any b a n c zs (j3 + 1) _ hS5 (by omega)).mono ?_
      rintro e w6 ⟨⟨v6, rfl, hG6⟩, T6, j6, hj6, hS6⟩
      have hol6 := ownsRow_src hol T6 (by omega)
      have hRl : Rs chE 10 w6 vl cs := by
        obtain ⟨a', c', e', -, hin, -⟩ := SlIn.ofRow chE_len (by rw [HM0.out]; exact hol6)
        rw [HM0.out] at e'
        cases e'
        exact hin.reads
      have g6 := g5.trans (T6.toBelow g5.size hb1)
      obtain ⟨gc, cc, ys, rfl, hP6, hs6, ho6⟩ := hG6
      obtain ⟨a', c', e', -, hin, -⟩ := SlIn.ofRow rwE_len ho6
      have e'2 := e'
      cases e'2
      obtain ⟨n6, hn6'⟩ : ∃ m, ys.length = m := ⟨_, rfl⟩
      have HN6 : Hid (ys.length = n6) := hn6'
      have HF : Hid (DhP w w6 (some ⟨gc, 0, none⟩) vl ys cs) := ⟨hP6.le, by rw [HM0.out]; omega, hs6, HSh.out, hin.reads, hRl, g6⟩
      rw [hn6']
      clear hn6' hP6 hs6 ho6 hin hRl g6 hol6 hol ho e' T6 hS5 hS6 g5
      have HM1 : Hid (cs.length = m0) := HM0.out
      go_wp2_with fail
      refine bodyPost_ret (v := .tuple #[.slice (some ⟨gc, 0, none⟩) n6 cc, .slice vl m0 cl]) (by simp [results, Try.results10, go_sem]) rfl ?_
      exact ⟨some ⟨gc, 0, none⟩, cc, ys, vl, cl, cs, by rw [HN6.out, HM1.out], HF.out⟩
    case neg =>
      have hRa : Rs rwE 4 w5 (some ⟨ga, 0, none⟩) rs := by
        obtain ⟨a', c', e', -, hin, -⟩ := SlIn.ofRow rwE_len (by rw [HN0.out]; exact ho)
        rw [HN0.out] at e'
        cases e'
        exact hin.reads
      have HF : Hid (DhP w w5 (some ⟨ga, 0, none⟩) vl rs cs) := ⟨by rw [HN0.out]; omega, by rw [HM0.out]; omega, HS.out, HSh.out, hRa, hRl, g5⟩
      have HM1 : Hid (cs.length = m0) := HM0.out
      clear hol ho hRa hRl hS5 g5
      go_wp2_with fail
      refine bodyPost_ret (v := .tuple #[.slice (some ⟨ga, 0, none⟩) n0 ca, .slice vl m0 cl]) (by simp [results, Try.results10, go_sem]) rfl ?_
      exact ⟨some ⟨ga, 0, none⟩, ca, rs, vl, cl, cs, by rw [HN0.out, HM1.out], HF.out⟩

end Go.Proofs.Ythhkgpflodeleaa
