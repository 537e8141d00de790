/-
  The draw of a list of changes and one more: DrawFoldChange.
-/
import Derived.Test.YtmbllmhpnopbdaaFFDrf
import Derived.Test.YtmbllmhpnopbdaaFFMch
import Derived.Test.YtmbllmhpnopbdaaFFFsh
import Derived.Test.YtmbllmhpnopbdaaFFPit
import Derived.Deep.RegionHeld

namespace Go.Proofs.Ytmbllmhpnopbdaa
open Go.RowKit Go.Maps
set_option linter.unusedVariables false
set_option maxRecDepth 20000

theorem froz_src {w w' : World} {lo hi x : Nat} (t : Turned lo hi w w') (hx : x < w.heap.size) (hn : x < lo ∨ hi ≤ x) (h : ∀ o, w.frozen? ⟨x, o, none⟩ = false) : ∀ o, w'.frozen? ⟨x, o, none⟩ = false :=
  fun o => (World.frozen?_of_block (a := ⟨x, o, none⟩) (t.block x hx (by omega))).trans (h o)
theorem froz_low {w w' : World} {x : Nat} (g : Below w.heap.size w w') (hx : x < w.heap.size) (h : ∀ o, w.frozen? ⟨x, o, none⟩ = false) : ∀ o, w'.frozen? ⟨x, o, none⟩ = false :=
  froz_src (Turned.ofBelow (lo := 0) (hi := 0) g) hx (.inr (Nat.zero_le _)) h
theorem ownsRow_low {w w' : World} {base e size k B : Nat} {v : Value} {xs : List Value} (h : w.ownsRow base e size v k xs) (hb : Below B w w') (hl : ∀ q, v.ownBlock = some q → q < B) : w'.ownsRow base e size v k xs := by
  refine ⟨h.1, ?_⟩
  rcases h.2 with h0 | ⟨g, cap, cur, hv, hg0, hg, hr⟩
  · exact .inl h0
  · exact .inr ⟨g, cap, cur, hv, hg0, (hb.block g (hl g (by rw [hv]; rfl))).trans hg, hr⟩
theorem rs_of_own {w : World} {base e m c : Nat} {a : Option Addr} {cs : List Chg} (h : w.ownsRow base e 10 (.slice a m c) m (flat chE cs)) (hm : cs.length = m) : Rs chE 10 w a cs := by
  subst hm
  obtain ⟨a', c', e', -, hin, -⟩ := SlIn.ofRow chE_len h
  cases e'
  exact hin.reads

set_option maxHeartbeats 16000000 in
theorem drawFoldChange_any (a : Option Addr) (n c : Nat) (zs : List Int) (w : World) (rd : Reads w a zs) (hn : zs.length = n) (hm : n ≤ 1048576) (hz : ∀ z ∈ zs, 0 ≤ z ∧ z ≤ 255) :
    Calls Try.prog 5 #[.slice a n c] w fun e w' => ∃ vl cl cs y, e = .returned (.tuple #[.slice vl cs.length cl, chV y]) ∧ cs.length ≤ 12 ∧ ShC cs ∧ y.b.s.size ≤ 9 ∧ y.a.s.size ≤ 9 ∧ Rs chE 10 w' vl cs ∧ Below w.heap.size w w' := by
  have gO : Below w.heap.size w (w.alloc (.cells #[.bool false, .int .i64 0, .int .i64 0, .int .i64 0, .string ⟨#[]⟩, .bool false, .int .i64 0, .int .i64 0, .int .i64 0, .string ⟨#[]⟩] 28)) := by go_grown
  obtain ⟨W, hW⟩ : ∃ W, W = w.alloc (.cells #[.bool false, .int .i64 0, .int .i64 0, .int .i64 0, .string ⟨#[]⟩, .bool false, .int .i64 0, .int .i64 0, .int .i64 0, .string ⟨#[]⟩] 28) := ⟨_, rfl⟩
  have O : ChC W w.heap.size 0 ⟨false, ⟨0, 0, 0, ⟨#[]⟩⟩, false, ⟨0, 0, 0, ⟨#[]⟩⟩⟩ := by rw [hW]; exact ⟨by simp [go_sem], by simp [go_sem], by simp [go_sem], by simp [go_sem], by simp [go_sem], by simp [go_sem], by simp [go_sem], by simp [go_sem], by simp [go_sem], by simp [go_sem]⟩
  have fO : ∀ o, W.frozen? ⟨w.heap.size, o, none⟩ = false := by intro o; rw [hW]; simp [go_sem]
  have hlo : w.heap.size < W.heap.size := by rw [hW]; simp
  rw [← hW] at gO
  have rd := rd.below gO (Nat.le_refl _)
  go_enter Try.func5, Try.ntmps5
  go_wp2_with fail
  rw [← hW]
  clear hW
  obtain ⟨ob, hob'⟩ : ∃ ob, ob = w.heap.size := ⟨_, rfl⟩
  have hob : w.heap.size ≤ ob := by omega
  rw [← hob'] at O fO hlo ⊢
  clear hob'
  refine (l1Source_any a n c zs W rd hn hm hz).mono ?_
  rintro e w1 ⟨rfl, g1, hl1, hS⟩
  have hgs := gO.size
  obtain ⟨b, hb⟩ : ∃ b, b = W.heap.size := ⟨_, rfl⟩
  rw [← hb] at hS hl1 hlo hgs ⊢
  have O := O.below g1 (by omega)
  have fO := froz_low g1 (by omega) fO
  have g := gO.trans (g1.mono gO.size)
  have hb1 : w.heap.size ≤ b := hgs
  have hob2 : ob < b := hlo
  have hlo : ob < w1.heap.size := by omega
  clear hb g1 gO rd hgs
  go_wp2_with fail
  refine (l6DrawRows_any b a n c zs 0 _ hS (by omega)).mono ?_
  rintro e w2 ⟨⟨v, rfl, hG⟩, t2, j2, hj2, hS2⟩
  have O := O.turned t2 (.inl (by omega))
  have fO := froz_src t2 hlo (.inl (by omega)) fO
  have hlo : ob < w2.heap.size := Nat.lt_of_lt_of_le hlo t2.size
  have g := g.trans (t2.toBelow g.size hb1)
  have hs2 := t2.size
  clear t2 hS
  obtain ⟨ga, ca, rs, rfl, hP, hss, ho⟩ := hG
  obtain ⟨n0, hn0⟩ : ∃ m, rs.length = m := ⟨_, rfl⟩
  have HN0 : Hid (rs.length = n0) := hn0
  rw [hn0] at ho ⊢
  have hn6 : n0 ≤ 6 := by rw [← hn0]; exact hP.1
  have HSo : Hid (rs.Pairwise rLt) := hP.2
  have HS : Hid (∀ r ∈ rs, r.s.size ≤ 9) := hss
  clear hn0 hP hss
  have hj20 := hS2.i0
  go_wp2_with fail
  refine (l6DrawRows_any b a n c zs j2 _ hS2 (by omega)).mono ?_
  rintro e w3 ⟨⟨v, rfl, hG⟩, t3, j3, hj3, hS3⟩
  have O := O.turned t3 (.inl (by omega))
  have fO := froz_src t3 hlo (.inl (by omega)) fO
  have hlo : ob < w3.heap.size := Nat.lt_of_lt_of_le hlo t3.size
  have g := g.trans (t3.toBelow g.size hb1)
  have ho := ownsRow_src ho t3 (by omega)
  have hs3 := t3.size
  clear t3 hS2
  obtain ⟨gb, cb', az, rfl, hP, hss, hob3⟩ := hG
  obtain ⟨m1, hm1⟩ : ∃ m, az.length = m := ⟨_, rfl⟩
  have HN1 : Hid (az.length = m1) := hm1
  rw [hm1] at hob3 ⊢
  have hn61 : m1 ≤ 6 := by rw [← hm1]; exact hP.1
  have HSo1 : Hid (az.Pairwise rLt) := hP.2
  have HS1 : Hid (∀ r ∈ az, r.s.size ≤ 9) := hss
  clear hm1 hP hss
  have hRa : Rs rwE 4 w3 (some ⟨ga, 0, none⟩) rs := by
    obtain ⟨a', c', e', -, hin, -⟩ := SlIn.ofRow rwE_len (by rw [HN0.out]; exact ho)
    rw [HN0.out] at e'
    cases e'
    exact hin.reads
  have hRb : Rs rwE 4 w3 (some ⟨gb, 0, none⟩) az := by
    obtain ⟨a', c', e', -, hin, -⟩ := SlIn.ofRow rwE_len (by rw [HN1.out]; exact hob3)
    rw [HN1.out] at e'
    cases e'
    exact hin.reads
  have hcon := l6Changes_any (some ⟨ga, 0, none⟩) (some ⟨gb, 0, none⟩) rs az n0 m1 ca cb' w3 HN0.out HN1.out (by omega) (by omega) HSo.out HSo1.out hRa hRb
  clear hRa hRb hob3 ho
  go_wp2_with (go_at_call 13; refine hcon.mono ?_)
  rintro e w4 ⟨v, ks, rfl, g4, hol, hk⟩
  have hkl := hk.len
  have hlen := chL_len rs az ks
  have HSh : Hid (ShC (chL rs az ks)) := chL_short HS.out HS1.out
  have hc12 : (chL rs az ks).length ≤ 12 := by rw [HN0.out, HN1.out] at hkl; omega
  generalize chL rs az ks = cs at hol HSh hc12
  have O := O.below g4 (by omega)
  have fO := froz_low g4 (by omega) fO
  have hS4 := hS3.below g4
  have hlo : ob < w4.heap.size := Nat.lt_of_lt_of_le hlo g4.size
  have hs4 := g4.size
  have g := g.trans (g4.mono g.size)
  have hj30 := hS3.i0
  clear hcon hlen hkl hk hS3 g4 HS HS1 HSo HSo1
  obtain ⟨m, hm0⟩ : ∃ m, cs.length = m := ⟨_, rfl⟩
  have HM : Hid (cs.length = m) := hm0
  obtain ⟨vl, cl, rfl, -⟩ := SlIn.ofRow chE_len hol
  rw [hm0] at hol hc12 ⊢
  clear hm0
  obtain ⟨B0, hB0⟩ : ∃ B, B = w3.heap.size := ⟨_, rfl⟩
  rw [← hB0] at hol
  have hbB : b + 1 ≤ B0 := by omega
  clear hB0
  go_wp2_with fail
  refine (l1Draw_any b a n c zs j3 _ hS4 (by omega)).mono ?_
  rintro e w5 ⟨⟨xt, xk, xv, xs, rfl, _, _, _, hxs⟩, t5, hS⟩
  have O := O.turned t5 (.inl (by omega))
  have fO := froz_src t5 hlo (.inl (by omega)) fO
  have hlo : ob < w5.heap.size := Nat.lt_of_lt_of_le hlo t5.size
  have hol := ownsRow_src hol t5 (by omega)
  have g := g.trans (t5.toBelow g.size hb1)
  have hs5 := t5.size
  clear t5 hS4
  have hlow : ∀ q, (Value.slice vl m cl).ownBlock = some q → q < w5.heap.size := fun q hq => (hol.lt q hq).2
  go_upto_region 5 with (fail)
  generalize hY : World.alloc _ _ = Y
  have gY : Below w5.heap.size w5 Y := by rw [← hY]; go_grown
  have C : ChC Y w5.heap.size 0 ⟨false, ⟨0, 0, 0, ⟨#[]⟩⟩, true, ⟨xt, xk, xv, xs⟩⟩ := by rw [← hY]; exact ⟨by simp [go_sem], by simp [go_sem], by simp [go_sem], by simp [go_sem], by simp [go_sem], by simp [go_sem], by simp [go_sem], by simp [go_sem], by simp [go_sem], by simp [go_sem]⟩
  have fC : ∀ o, Y.frozen? ⟨w5.heap.size, o, none⟩ = false := by intro o; rw [← hY]; simp [go_sem]
  have hlc : w5.heap.size < Y.heap.size := by rw [← hY]; simp
  have O := O.below gY hlo
  have fO := froz_low gY hlo fO
  have hS := hS.below gY
  have hlo : ob < Y.heap.size := Nat.lt_of_lt_of_le hlo gY.size
  have hol := ownsRow_below hol gY
  have g := g.trans (gY.mono g.size)
  have hcw : w.heap.size ≤ w5.heap.size := by omega
  clear hY gY
  obtain ⟨cb, hcb⟩ : ∃ cb, cb = w5.heap.size := ⟨_, rfl⟩
  rw [← hcb] at C fC hlc hlow hcw ⊢
  have hbc : b + 1 ≤ cb := by omega
  clear hcb hs5
  by_cases hm1 : 0 < m
  case neg =>
    have d1 : ¬ (0 : Int) < (m : Int) := by omega
    go_wp2_with fail
    refine (l1Chance_any b a n c zs (j3 + 5) 10 _ hS (by omega) (by omega) (by omega)).mono ?_
    rintro e V8 ⟨⟨z, rfl⟩, t8, hS8⟩
    have C := C.turned t8 (.inr (by omega))
    have fC := froz_src t8 hlc (.inr (by omega)) fC
    have O := O.turned t8 (.inl (by omega))
    have fO := froz_src t8 hlo (.inl (by omega)) fO
    have hlc : cb < V8.heap.size := Nat.lt_of_lt_of_le hlc t8.size
    have hlo : ob < V8.heap.size := Nat.lt_of_lt_of_le hlo t8.size
    have hol := ownsRow_src hol t8 (by omega)
    have g := g.trans (t8.toBelow g.size hb1)
    clear t8 hS
    cases z
    case false =>
      have HG : Hid (∀ V', Turned ob (ob + 1) V8.drew V' → Rs chE 10 V' vl cs ∧ Below w.heap.size w V') := fun V' t' => by
        have t := (Turned.ofBelow (lo := ob) (hi := ob + 1) (Below.refl V8.heap.size V8).drew).trans t'
        exact ⟨rs_of_own (ownsRow_src hol t (by omega)) HM.out, g.trans (t.toBelow g.size hob)⟩
      have HM2 : Hid (cs.length = m) := HM.out
      have HY : Hid (ByteArray.size ⟨#[]⟩ ≤ 9 ∧ ByteArray.size xs ≤ 9) := ⟨by decide, Nat.le_trans hxs (by omega)⟩
      clear hol g
      go_upto_region 14 with (fail)
      refine wp_region_held_drew (S := fun U => ChC U cb 0 ⟨false, ⟨0, 0, 0, ⟨#[]⟩⟩, true, ⟨xt, xk, xv, xs⟩⟩) (by kernel_rfl) (C.below (Below.refl V8.heap.size V8).drew hlc) (fun hHeld => ?_)
      have O := O.below (Below.refl V8.heap.size V8).drew hlo
      have fO := froz_low (Below.refl V8.heap.size V8).drew hlo fO
      generalize V8.drew = D at hHeld O fO HG ⊢
      clear C fC hlc hlo
      refine wpAnyH_take (i := 0) (v := ?v1) rfl (by kernel_rfl) (by kernel_rfl) (by kernel_rfl) (fun _ _ _ h => h) (Or.inl ⟨by kernel_rfl, ?h1⟩) hHeld ?_
      case h1 => intro u hSw; (try dsimp only at hSw); go_simp; try with_reducible rfl
      try simp only [List.getElem_toArray]
      try simp only [List.getElem_cons_succ]
      try simp only [List.getElem_cons_zero]
      try simp only [Act.put]
      try simp only [List.setIfInBounds_toArray]
      try simp only [List.set]
      refine wpAnyH_take (i := 1) (v := ?v2) rfl (by kernel_rfl) (by kernel_rfl) (by kernel_rfl) (fun _ _ _ h => h) (Or.inl ⟨by kernel_rfl, ?h2⟩) hHeld ?_
      case h2 => intro u hSw; (obtain ⟨c0, c1, c2, c3, c4, c5, c6, c7, c8, c9⟩ := hSw; dsimp only at c0 c1 c2 c3 c4 c5 c6 c7 c8 c9); go_simp; try with_reducible rfl
      try simp only [List.getElem_toArray]
      try simp only [List.getElem_cons_succ]
      try simp only [List.getElem_cons_zero]
      try simp only [Act.put]
      try simp only [List.setIfInBounds_toArray]
      try simp only [List.set]
      refine wpAnyH_take (i := 2) (v := ?v3) rfl (by kernel_rfl) (by kernel_rfl) (by kernel_rfl) (fun _ _ _ h => h) (Or.inl ⟨by kernel_rfl, ?h3⟩) hHeld ?_
      case h3 => intro u hSw; (try dsimp only at hSw); go_simp; try with_reducible rfl
      try simp only [List.getElem_toArray]
      try simp only [List.getElem_cons_succ]
      try simp only [List.getElem_cons_zero]
      try simp only [Act.put]
      try simp only [List.setIfInBounds_toArray]
      try simp only [List.set]
      refine wpAnyH_ready (rs := [3]) (by kernel_rfl) (by simp) ?_
      refine AllReadyH.cons rfl (fun K hK => ?_) AllReadyH.nil
      obtain ⟨o0, o1, o2, o3, o4, o5, o6, o7, o8, o9⟩ := O
      dsimp only at o0 o1 o2 o3 o4 o5 o6 o7 o8 o9
      have q0 := fO 0
      have q1 := fO 1
      have q2 := fO 2
      have q3 := fO 3
      have q4 := fO 4
      have q5 := fO 5
      have q6 := fO 6
      have q7 := fO 7
      have q8 := fO 8
      have q9 := fO 9
      go_simp
      refine hK.out _ _ (hHeld.turned (lo := ob) (hi := ob + 1) (((((((((((Turned.refl _ _ _).setCell (p := ⟨ob, 0, none⟩) (Nat.le_refl _) (Nat.lt_succ_self _) _).setCell (p := ⟨ob, 1, none⟩) (Nat.le_refl _) (Nat.lt_succ_self _) _).setCell (p := ⟨ob, 2, none⟩) (Nat.le_refl _) (Nat.lt_succ_self _) _).setCell (p := ⟨ob, 3, none⟩) (Nat.le_refl _) (Nat.lt_succ_self _) _).setCell (p := ⟨ob, 4, none⟩) (Nat.le_refl _) (Nat.lt_succ_self _) _).setCell (p := ⟨ob, 5, none⟩) (Nat.le_refl _) (Nat.lt_succ_self _) _).setCell (p := ⟨ob, 6, none⟩) (Nat.le_refl _) (Nat.lt_succ_self _) _).setCell (p := ⟨ob, 7, none⟩) (Nat.le_refl _) (Nat.lt_succ_self _) _).setCell (p := ⟨ob, 8, none⟩) (Nat.le_refl _) (Nat.lt_succ_self _) _).setCell (p := ⟨ob, 9, none⟩) (Nat.le_refl _) (Nat.lt_succ_self _) _) (.inr (by omega))) (fun hHeld => ?_)
      clear hK K
      try simp only [Act.put]
      try simp only [List.setIfInBounds_toArray]
      try simp only [List.set]
      refine wpAnyH_done (by kernel_rfl) ?_ _
      clear hHeld
      go_wp2_with fail
      refine bodyPost_ret (v := .tuple #[.slice vl m cl, .agg #[.bool false, .int .i64 0, .int .i64 0, .int .i64 0, .string ⟨#[]⟩, .bool true, .int .i64 xt, .int .i64 xk, .int .i64 xv, .string xs]]) (by simp [results, Try.results5, go_sem, *]) rfl ?_
      exact ⟨vl, cl, cs, ⟨false, ⟨0, 0, 0, ⟨#[]⟩⟩, true, ⟨xt, xk, xv, xs⟩⟩, by rw [HM2.out]; rfl, by rw [HM2.out]; omega, HSh.out, HY.out.1, HY.out.2, HG.out _ (((((((((((Turned.refl _ _ _).setCell (p := ⟨ob, 0, none⟩) (Nat.le_refl _) (Nat.lt_succ_self _) _).setCell (p := ⟨ob, 1, none⟩) (Nat.le_refl _) (Nat.lt_succ_self _) _).setCell (p := ⟨ob, 2, none⟩) (Nat.le_refl _) (Nat.lt_succ_self _) _).setCell (p := ⟨ob, 3, none⟩) (Nat.le_refl _) (Nat.lt_succ_self _) _).setCell (p := ⟨ob, 4, none⟩) (Nat.le_refl _) (Nat.lt_succ_self _) _).setCell (p := ⟨ob, 5, none⟩) (Nat.le_refl _) (Nat.lt_succ_self _) _).setCell (p := ⟨ob, 6, none⟩) (Nat.le_refl _) (Nat.lt_succ_self _) _).setCell (p := ⟨ob, 7, none⟩) (Nat.le_refl _) (Nat.lt_succ_self _) _).setCell (p := ⟨ob, 8, none⟩) (Nat.le_refl _) (Nat.lt_succ_self _) _).setCell (p := ⟨ob, 9, none⟩) (Nat.le_refl _) (Nat.lt_succ_self _) _)⟩
    case true =>
      go_wp2_with fail
      refine (l1Bent_any b a n c zs (j3 + 5 + 1) _ hS8 (by omega)).mono ?_
      rintro e V9 ⟨⟨nt, nk, nv, ns, rfl, hns⟩, t9, j9, hj9, hS9⟩
      have C := C.turned t9 (.inr (by omega))
      have fC := froz_src t9 hlc (.inr (by omega)) fC
      have O := O.turned t9 (.inl (by omega))
      have fO := froz_src t9 hlo (.inl (by omega)) fO
      have hlc : cb < V9.heap.size := Nat.lt_of_lt_of_le hlc t9.size
      have hlo : ob < V9.heap.size := Nat.lt_of_lt_of_le hlo t9.size
      have hol := ownsRow_src hol t9 (by omega)
      have g := g.trans (t9.toBelow g.size hb1)
      clear t9 hS8
      obtain ⟨c0, c1, c2, c3, c4, c5, c6, c7, c8, c9⟩ := C
      dsimp only at c0 c1 c2 c3 c4 c5 c6 c7 c8 c9
      have f0 := fC 0
      have f1 := fC 1
      have f2 := fC 2
      have f3 := fC 3
      have f4 := fC 4
      have f5 := fC 5
      have f6 := fC 6
      have f7 := fC 7
      have f8 := fC 8
      have f9 := fC 9
      have hlc0 := hlc
      go_upto_region 14 with (fail)
      generalize hU : World.setCell _ _ _ = U4
      have C : ChC U4 cb 0 ⟨false, ⟨nt, nk, nv, ns⟩, true, ⟨xt, xk, xv, xs⟩⟩ := by rw [← hU]; clear hU; exact ⟨by simp [go_sem, *], by simp [go_sem, *], by simp [go_sem, *], by simp [go_sem, *], by simp [go_sem, *], by simp [go_sem, *], by simp [go_sem, *], by simp [go_sem, *], by simp [go_sem, *], by simp [go_sem, *]⟩
      have fC : ∀ o, U4.frozen? ⟨cb, o, none⟩ = false := by intro o; rw [← hU]; simp [go_sem, fC]
      have tU : Turned cb (cb + 1) V9 U4 := by rw [← hU]; exact (((((Turned.refl _ _ _).setCell (p := ⟨cb, 1, none⟩) (Nat.le_refl _) (Nat.lt_succ_self _) _).setCell (p := ⟨cb, 2, none⟩) (Nat.le_refl _) (Nat.lt_succ_self _) _).setCell (p := ⟨cb, 3, none⟩) (Nat.le_refl _) (Nat.lt_succ_self _) _).setCell (p := ⟨cb, 4, none⟩) (Nat.le_refl _) (Nat.lt_succ_self _) _)
      have hS : SrcAt U4 b a n c zs j9 := by rw [← hU]; exact ((((hS9.setFar (p := ⟨cb, 1, none⟩) (by simp only; omega) _).setFar (p := ⟨cb, 2, none⟩) (by simp only; omega) _).setFar (p := ⟨cb, 3, none⟩) (by simp only; omega) _).setFar (p := ⟨cb, 4, none⟩) (by simp only; omega) _)
      have O := O.turned tU (.inl (by omega))
      have fO := froz_src tU hlo (.inl (by omega)) fO
      have hlo : ob < U4.heap.size := Nat.lt_of_lt_of_le hlo tU.size
      have hlc : cb < U4.heap.size := Nat.lt_of_lt_of_le hlc tU.size
      have gU : Below cb V9 U4 := tU.toBelow (Nat.le_of_lt hlc0) (Nat.le_refl _)
      have hol := ownsRow_low hol gU hlow
      have g := g.trans (gU.mono (by omega))
      clear hU tU gU c0 c1 c2 c3 c4 c5 c6 c7 c8 c9 f0 f1 f2 f3 f4 f5 f6 f7 f8 f9
      have HG : Hid (∀ V', Turned ob (ob + 1) U4.drew V' → Rs chE 10 V' vl cs ∧ Below w.heap.size w V') := fun V' t' => by
        have t := (Turned.ofBelow (lo := ob) (hi := ob + 1) (Below.refl U4.heap.size U4).drew).trans t'
        exact ⟨rs_of_own (ownsRow_src hol t (by omega)) HM.out, g.trans (t.toBelow g.size hob)⟩
      have HM2 : Hid (cs.length = m) := HM.out
      have HY : Hid (ByteArray.size ns ≤ 9 ∧ ByteArray.size xs ≤ 9) := ⟨hns, Nat.le_trans hxs (by omega)⟩
      clear hol g
      go_upto_region 14 with (fail)
      refine wp_region_held_drew (S := fun U => ChC U cb 0 ⟨false, ⟨nt, nk, nv, ns⟩, true, ⟨xt, xk, xv, xs⟩⟩) (by kernel_rfl) (C.below (Below.refl U4.heap.size U4).drew hlc) (fun hHeld => ?_)
      have O := O.below (Below.refl U4.heap.size U4).drew hlo
      have fO := froz_low (Below.refl U4.heap.size U4).drew hlo fO
      generalize U4.drew = D at hHeld O fO HG ⊢
      clear C fC hlc hlo
      refine wpAnyH_take (i := 0) (v := ?v4) rfl (by kernel_rfl) (by kernel_rfl) (by kernel_rfl) (fun _ _ _ h => h) (Or.inl ⟨by kernel_rfl, ?h4⟩) hHeld ?_
      case h4 => intro u hSw; (try dsimp only at hSw); go_simp; try with_reducible rfl
      try simp only [List.getElem_toArray]
      try simp only [List.getElem_cons_succ]
      try simp only [List.getElem_cons_zero]
      try simp only [Act.put]
      try simp only [List.setIfInBounds_toArray]
      try simp only [List.set]
      refine wpAnyH_take (i := 1) (v := ?v5) rfl (by kernel_rfl) (by kernel_rfl) (by kernel_rfl) (fun _ _ _ h => h) (Or.inl ⟨by kernel_rfl, ?h5⟩) hHeld ?_
      case h5 => intro u hSw; (obtain ⟨c0, c1, c2, c3, c4, c5, c6, c7, c8, c9⟩ := hSw; dsimp only at c0 c1 c2 c3 c4 c5 c6 c7 c8 c9); go_simp; try with_reducible rfl
      try simp only [List.getElem_toArray]
      try simp only [List.getElem_cons_succ]
      try simp only [List.getElem_cons_zero]
      try simp only [Act.put]
      try simp only [List.setIfInBounds_toArray]
      try simp only [List.set]
      refine wpAnyH_take (i := 2) (v := ?v6) rfl (by kernel_rfl) (by kernel_rfl) (by kernel_rfl) (fun _ _ _ h => h) (Or.inl ⟨by kernel_rfl, ?h6⟩) hHeld ?_
      case h6 => intro u hSw; (try dsimp only at hSw); go_simp; try with_reducible rfl
      try simp only [List.getElem_toArray]
      try simp only [List.getElem_cons_succ]
      try simp only [List.getElem_cons_zero]
      try simp only [Act.put]
      try simp only [List.setIfInBounds_toArray]
      try simp only [List.set]
      refine wpAnyH_ready (rs := [3]) (by kernel_rfl) (by simp) ?_
      refine AllReadyH.cons rfl (fun K hK => ?_) AllReadyH.nil
      obtain ⟨o0, o1, o2, o3, o4, o5, o6, o7, o8, o9⟩ := O
      dsimp only at o0 o1 o2 o3 o4 o5 o6 o7 o8 o9
      have q0 := fO 0
      have q1 := fO 1
      have q2 := fO 2
      have q3 := fO 3
      have q4 := fO 4
      have q5 := fO 5
      have q6 := fO 6
      have q7 := fO 7
      have q8 := fO 8
      have q9 := fO 9
      go_simp
      refine hK.out _ _ (hHeld.turned (lo := ob) (hi := ob + 1) (((((((((((Turned.refl _ _ _).setCell (p := ⟨ob, 0, none⟩) (Nat.le_refl _) (Nat.lt_succ_self _) _).setCell (p := ⟨ob, 1, none⟩) (Nat.le_refl _) (Nat.lt_succ_self _) _).setCell (p := ⟨ob, 2, none⟩) (Nat.le_refl _) (Nat.lt_succ_self _) _).setCell (p := ⟨ob, 3, none⟩) (Nat.le_refl _) (Nat.lt_succ_self _) _).setCell (p := ⟨ob, 4, none⟩) (Nat.le_refl _) (Nat.lt_succ_self _) _).setCell (p := ⟨ob, 5, none⟩) (Nat.le_refl _) (Nat.lt_succ_self _) _).setCell (p := ⟨ob, 6, none⟩) (Nat.le_refl _) (Nat.lt_succ_self _) _).setCell (p := ⟨ob, 7, none⟩) (Nat.le_refl _) (Nat.lt_succ_self _) _).setCell (p := ⟨ob, 8, none⟩) (Nat.le_refl _) (Nat.lt_succ_self _) _).setCell (p := ⟨ob, 9, none⟩) (Nat.le_refl _) (Nat.lt_succ_self _) _) (.inr (by omega))) (fun hHeld => ?_)
      clear hK K
      try simp only [Act.put]
      try simp only [List.setIfInBounds_toArray]
      try simp only [List.set]
      refine wpAnyH_done (by kernel_rfl) ?_ _
      clear hHeld
      go_wp2_with fail
      refine bodyPost_ret (v := .tuple #[.slice vl m cl, .agg #[.bool false, .int .i64 nt, .int .i64 nk, .int .i64 nv, .string ns, .bool true, .int .i64 xt, .int .i64 xk, .int .i64 xv, .string xs]]) (by simp [results, Try.results5, go_sem, *]) rfl ?_
      exact ⟨vl, cl, cs, ⟨false, ⟨nt, nk, nv, ns⟩, true, ⟨xt, xk, xv, xs⟩⟩, by rw [HM2.out]; rfl, by rw [HM2.out]; omega, HSh.out, HY.out.1, HY.out.2, HG.out _ (((((((((((Turned.refl _ _ _).setCell (p := ⟨ob, 0, none⟩) (Nat.le_refl _) (Nat.lt_succ_self _) _).setCell (p := ⟨ob, 1, none⟩) (Nat.le_refl _) (Nat.lt_succ_self _) _).setCell (p := ⟨ob, 2, none⟩) (Nat.le_refl _) (Nat.lt_succ_self _) _).setCell (p := ⟨ob, 3, none⟩) (Nat.le_refl _) (Nat.lt_succ_self _) _).setCell (p := ⟨ob, 4, none⟩) (Nat.le_refl _) (Nat.lt_succ_self _) _).setCell (p := ⟨ob, 5, none⟩) (Nat.le_refl _) (Nat.lt_succ_self _) _).setCell (p := ⟨ob, 6, none⟩) (Nat.le_refl _) (Nat.lt_succ_self _) _).setCell (p := ⟨ob, 7, none⟩) (Nat.le_refl _) (Nat.lt_succ_self _) _).setCell (p := ⟨ob, 8, none⟩) (Nat.le_refl _) (Nat.lt_succ_self _) _).setCell (p := ⟨ob, 9, none⟩) (Nat.le_refl _) (Nat.lt_succ_self _) _)⟩
  case pos =>
    have d1 : (0 : Int) < (m : Int) := by omega
    go_wp2_with fail
    refine (l1Chance_any b a n c zs (j3 + 5) 4 _ hS (by omega) (by omega) (by omega)).mono ?_
    rintro e V1 ⟨⟨z, rfl⟩, t1, hS1⟩
    have C := C.turned t1 (.inr (by omega))
    have fC := froz_src t1 hlc (.inr (by omega)) fC
    have O := O.turned t1 (.inl (by omega))
    have fO := froz_src t1 hlo (.inl (by omega)) fO
    have hlc : cb < V1.heap.size := Nat.lt_of_lt_of_le hlc t1.size
    have hlo : ob < V1.heap.size := Nat.lt_of_lt_of_le hlo t1.size
    have hol := ownsRow_src hol t1 (by omega)
    have g := g.trans (t1.toBelow g.size hb1)
    clear t1 hS
    have hS := hS1
    clear hS1
    cases z
    case true =>
      go_wp2_with fail
      refine (l1Chance_any b a n c zs (j3 + 5 + 1) 10 _ hS (by omega) (by omega) (by omega)).mono ?_
      rintro e V8 ⟨⟨z, rfl⟩, t8, hS8⟩
      have C := C.turned t8 (.inr (by omega))
      have fC := froz_src t8 hlc (.inr (by omega)) fC
      have O := O.turned t8 (.inl (by omega))
      have fO := froz_src t8 hlo (.inl (by omega)) fO
      have hlc : cb < V8.heap.size := Nat.lt_of_lt_of_le hlc t8.size
      have hlo : ob < V8.heap.size := Nat.lt_of_lt_of_le hlo t8.size
      have hol := ownsRow_src hol t8 (by omega)
      have g := g.trans (t8.toBelow g.size hb1)
      clear t8 hS
      cases z
      case false =>
        have HG : Hid (∀ V', Turned ob (ob + 1) V8.drew V' → Rs chE 10 V' vl cs ∧ Below w.heap.size w V') := fun V' t' => by
          have t := (Turned.ofBelow (lo := ob) (hi := ob + 1) (Below.refl V8.heap.size V8).drew).trans t'
          exact ⟨rs_of_own (ownsRow_src hol t (by omega)) HM.out, g.trans (t.toBelow g.size hob)⟩
        have HM2 : Hid (cs.length = m) := HM.out
        have HY : Hid (ByteArray.size ⟨#[]⟩ ≤ 9 ∧ ByteArray.size xs ≤ 9) := ⟨by decide, Nat.le_trans hxs (by omega)⟩
        clear hol g
        go_upto_region 14 with (fail)
        refine wp_region_held_drew (S := fun U => ChC U cb 0 ⟨false, ⟨0, 0, 0, ⟨#[]⟩⟩, true, ⟨xt, xk, xv, xs⟩⟩) (by kernel_rfl) (C.below (Below.refl V8.heap.size V8).drew hlc) (fun hHeld => ?_)
        have O := O.below (Below.refl V8.heap.size V8).drew hlo
        have fO := froz_low (Below.refl V8.heap.size V8).drew hlo fO
        generalize V8.drew = D at hHeld O fO HG ⊢
        clear C fC hlc hlo
        refine wpAnyH_take (i := 0) (v := ?v7) rfl (by kernel_rfl) (by kernel_rfl) (by kernel_rfl) (fun _ _ _ h => h) (Or.inl ⟨by kernel_rfl, ?h7⟩) hHeld ?_
        case h7 => intro u hSw; (try dsimp only at hSw); go_simp; try with_reducible rfl
        try simp only [List.getElem_toArray]
        try simp only [List.getElem_cons_succ]
        try simp only [List.getElem_cons_zero]
        try simp only [Act.put]
        try simp only [List.setIfInBounds_toArray]
        try simp only [List.set]
        refine wpAnyH_take (i := 1) (v := ?v8) rfl (by kernel_rfl) (by kernel_rfl) (by kernel_rfl) (fun _ _ _ h => h) (Or.inl ⟨by kernel_rfl, ?h8⟩) hHeld ?_
        case h8 => intro u hSw; (obtain ⟨c0, c1, c2, c3, c4, c5, c6, c7, c8, c9⟩ := hSw; dsimp only at c0 c1 c2 c3 c4 c5 c6 c7 c8 c9); go_simp; try with_reducible rfl
        try simp only [List.getElem_toArray]
        try simp only [List.getElem_cons_succ]
        try simp only [List.getElem_cons_zero]
        try simp only [Act.put]
        try simp only [List.setIfInBounds_toArray]
        try simp only [List.set]
        refine wpAnyH_take (i := 2) (v := ?v9) rfl (by kernel_rfl) (by kernel_rfl) (by kernel_rfl) (fun _ _ _ h => h) (Or.inl ⟨by kernel_rfl, ?h9⟩) hHeld ?_
        case h9 => intro u hSw; (try dsimp only at hSw); go_simp; try with_reducible rfl
        try simp only [List.getElem_toArray]
        try simp only [List.getElem_cons_succ]
        try simp only [List.getElem_cons_zero]
        try simp only [Act.put]
        try simp only [List.setIfInBounds_toArray]
        try simp only [List.set]
        refine wpAnyH_ready (rs := [3]) (by kernel_rfl) (by simp) ?_
        refine AllReadyH.cons rfl (fun K hK => ?_) AllReadyH.nil
        obtain ⟨o0, o1, o2, o3, o4, o5, o6, o7, o8, o9⟩ := O
        dsimp only at o0 o1 o2 o3 o4 o5 o6 o7 o8 o9
        have q0 := fO 0
        have q1 := fO 1
        have q2 := fO 2
        have q3 := fO 3
        have q4 := fO 4
        have q5 := fO 5
        have q6 := fO 6
        have q7 := fO 7
        have q8 := fO 8
        have q9 := fO 9
        go_simp
        refine hK.out _ _ (hHeld.turned (lo := ob) (hi := ob + 1) (((((((((((Turned.refl _ _ _).setCell (p := ⟨ob, 0, none⟩) (Nat.le_refl _) (Nat.lt_succ_self _) _).setCell (p := ⟨ob, 1, none⟩) (Nat.le_refl _) (Nat.lt_succ_self _) _).setCell (p := ⟨ob, 2, none⟩) (Nat.le_refl _) (Nat.lt_succ_self _) _).setCell (p := ⟨ob, 3, none⟩) (Nat.le_refl _) (Nat.lt_succ_self _) _).setCell (p := ⟨ob, 4, none⟩) (Nat.le_refl _) (Nat.lt_succ_self _) _).setCell (p := ⟨ob, 5, none⟩) (Nat.le_refl _) (Nat.lt_succ_self _) _).setCell (p := ⟨ob, 6, none⟩) (Nat.le_refl _) (Nat.lt_succ_self _) _).setCell (p := ⟨ob, 7, none⟩) (Nat.le_refl _) (Nat.lt_succ_self _) _).setCell (p := ⟨ob, 8, none⟩) (Nat.le_refl _) (Nat.lt_succ_self _) _).setCell (p := ⟨ob, 9, none⟩) (Nat.le_refl _) (Nat.lt_succ_self _) _) (.inr (by omega))) (fun hHeld => ?_)
        clear hK K
        try simp only [Act.put]
        try simp only [List.setIfInBounds_toArray]
        try simp only [List.set]
        refine wpAnyH_done (by kernel_rfl) ?_ _
        clear hHeld
        go_wp2_with fail
        refine bodyPost_ret (v := .tuple #[.slice vl m cl, .agg #[.bool false, .int .i64 0, .int .i64 0, .int .i64 0, .string ⟨#[]⟩, .bool true, .int .i64 xt, .int .i64 xk, .int .i64 xv, .string xs]]) (by simp [results, Try.results5, go_sem, *]) rfl ?_
        exact ⟨vl, cl, cs, ⟨false, ⟨0, 0, 0, ⟨#[]⟩⟩, true, ⟨xt, xk, xv, xs⟩⟩, by rw [HM2.out]; rfl, by rw [HM2.out]; omega, HSh.out, HY.out.1, HY.out.2, HG.out _ (((((((((((Turned.refl _ _ _).setCell (p := ⟨ob, 0, none⟩) (Nat.le_refl _) (Nat.lt_succ_self _) _).setCell (p := ⟨ob, 1, none⟩) (Nat.le_refl _) (Nat.lt_succ_self _) _).setCell (p := ⟨ob, 2, none⟩) (Nat.le_refl _) (Nat.lt_succ_self _) _).setCell (p := ⟨ob, 3, none⟩) (Nat.le_refl _) (Nat.lt_succ_self _) _).setCell (p := ⟨ob, 4, none⟩) (Nat.le_refl _) (Nat.lt_succ_self _) _).setCell (p := ⟨ob, 5, none⟩) (Nat.le_refl _) (Nat.lt_succ_self _) _).setCell (p := ⟨ob, 6, none⟩) (Nat.le_refl _) (Nat.lt_succ_self _) _).setCell (p := ⟨ob, 7, none⟩) (Nat.le_refl _) (Nat.lt_succ_self _) _).setCell (p := ⟨ob, 8, none⟩) (Nat.le_refl _) (Nat.lt_succ_self _) _).setCell (p := ⟨ob, 9, none⟩) (Nat.le_refl _) (Nat.lt_succ_self _) _)⟩
      case true =>
        go_wp2_with fail
        refine (l1Bent_any b a n c zs (j3 + 5 + 1 + 1) _ hS8 (by omega)).mono ?_
        rintro e V9 ⟨⟨nt, nk, nv, ns, rfl, hns⟩, t9, j9, hj9, hS9⟩
        have C := C.turned t9 (.inr (by omega))
        have fC := froz_src t9 hlc (.inr (by omega)) fC
        have O := O.turned t9 (.inl (by omega))
        have fO := froz_src t9 hlo (.inl (by omega)) fO
        have hlc : cb < V9.heap.size := Nat.lt_of_lt_of_le hlc t9.size
        have hlo : ob < V9.heap.size := Nat.lt_of_lt_of_le hlo t9.size
        have hol := ownsRow_src hol t9 (by omega)
        have g := g.trans (t9.toBelow g.size hb1)
        clear t9 hS8
        obtain ⟨c0, c1, c2, c3, c4, c5, c6, c7, c8, c9⟩ := C
        dsimp only at c0 c1 c2 c3 c4 c5 c6 c7 c8 c9
        have f0 := fC 0
        have f1 := fC 1
        have f2 := fC 2
        have f3 := fC 3
        have f4 := fC 4
        have f5 := fC 5
        have f6 := fC 6
        have f7 := fC 7
        have f8 := fC 8
        have f9 := fC 9
        have hlc0 := hlc
        go_upto_region 14 with (fail)
        generalize hU : World.setCell _ _ _ = U5
        have C : ChC U5 cb 0 ⟨false, ⟨nt, nk, nv, ns⟩, true, ⟨xt, xk, xv, xs⟩⟩ := by rw [← hU]; clear hU; exact ⟨by simp [go_sem, *], by simp [go_sem, *], by simp [go_sem, *], by simp [go_sem, *], by simp [go_sem, *], by simp [go_sem, *], by simp [go_sem, *], by simp [go_sem, *], by simp [go_sem, *], by simp [go_sem, *]⟩
        have fC : ∀ o, U5.frozen? ⟨cb, o, none⟩ = false := by intro o; rw [← hU]; simp [go_sem, fC]
        have tU : Turned cb (cb + 1) V9 U5 := by rw [← hU]; exact (((((Turned.refl _ _ _).setCell (p := ⟨cb, 1, none⟩) (Nat.le_refl _) (Nat.lt_succ_self _) _).setCell (p := ⟨cb, 2, none⟩) (Nat.le_refl _) (Nat.lt_succ_self _) _).setCell (p := ⟨cb, 3, none⟩) (Nat.le_refl _) (Nat.lt_succ_self _) _).setCell (p := ⟨cb, 4, none⟩) (Nat.le_refl _) (Nat.lt_succ_self _) _)
        have hS : SrcAt U5 b a n c zs j9 := by rw [← hU]; exact ((((hS9.setFar (p := ⟨cb, 1, none⟩) (by simp only; omega) _).setFar (p := ⟨cb, 2, none⟩) (by simp only; omega) _).setFar (p := ⟨cb, 3, none⟩) (by simp only; omega) _).setFar (p := ⟨cb, 4, none⟩) (by simp only; omega) _)
        have O := O.turned tU (.inl (by omega))
        have fO := froz_src tU hlo (.inl (by omega)) fO
        have hlo : ob < U5.heap.size := Nat.lt_of_lt_of_le hlo tU.size
        have hlc : cb < U5.heap.size := Nat.lt_of_lt_of_le hlc tU.size
        have gU : Below cb V9 U5 := tU.toBelow (Nat.le_of_lt hlc0) (Nat.le_refl _)
        have hol := ownsRow_low hol gU hlow
        have g := g.trans (gU.mono (by omega))
        clear hU tU gU c0 c1 c2 c3 c4 c5 c6 c7 c8 c9 f0 f1 f2 f3 f4 f5 f6 f7 f8 f9
        have HG : Hid (∀ V', Turned ob (ob + 1) U5.drew V' → Rs chE 10 V' vl cs ∧ Below w.heap.size w V') := fun V' t' => by
          have t := (Turned.ofBelow (lo := ob) (hi := ob + 1) (Below.refl U5.heap.size U5).drew).trans t'
          exact ⟨rs_of_own (ownsRow_src hol t (by omega)) HM.out, g.trans (t.toBelow g.size hob)⟩
        have HM2 : Hid (cs.length = m) := HM.out
        have HY : Hid (ByteArray.size ns ≤ 9 ∧ ByteArray.size xs ≤ 9) := ⟨hns, Nat.le_trans hxs (by omega)⟩
        clear hol g
        go_upto_region 14 with (fail)
        refine wp_region_held_drew (S := fun U => ChC U cb 0 ⟨false, ⟨nt, nk, nv, ns⟩, true, ⟨xt, xk, xv, xs⟩⟩) (by kernel_rfl) (C.below (Below.refl U5.heap.size U5).drew hlc) (fun hHeld => ?_)
        have O := O.below (Below.refl U5.heap.size U5).drew hlo
        have fO := froz_low (Below.refl U5.heap.size U5).drew hlo fO
        generalize U5.drew = D at hHeld O fO HG ⊢
        clear C fC hlc hlo
        refine wpAnyH_take (i := 0) (v := ?v10) rfl (by kernel_rfl) (by kernel_rfl) (by kernel_rfl) (fun _ _ _ h => h) (Or.inl ⟨by kernel_rfl, ?h10⟩) hHeld ?_
        case h10 => intro u hSw; (try dsimp only at hSw); go_simp; try with_reducible rfl
        try simp only [List.getElem_toArray]
        try simp only [List.getElem_cons_succ]
        try simp only [List.getElem_cons_zero]
        try simp only [Act.put]
        try simp only [List.setIfInBounds_toArray]
        try simp only [List.set]
        refine wpAnyH_take (i := 1) (v := ?v11) rfl (by kernel_rfl) (by kernel_rfl) (by kernel_rfl) (fun _ _ _ h => h) (Or.inl ⟨by kernel_rfl, ?h11⟩) hHeld ?_
        case h11 => intro u hSw; (obtain ⟨c0, c1, c2, c3, c4, c5, c6, c7, c8, c9⟩ := hSw; dsimp only at c0 c1 c2 c3 c4 c5 c6 c7 c8 c9); go_simp; try with_reducible rfl
        try simp only [List.getElem_toArray]
        try simp only [List.getElem_cons_succ]
        try simp only [List.getElem_cons_zero]
        try simp only [Act.put]
        try simp only [List.setIfInBounds_toArray]
        try simp only [List.set]
        refine wpAnyH_take (i := 2) (v := ?v12) rfl (by kernel_rfl) (by kernel_rfl) (by kernel_rfl) (fun _ _ _ h => h) (Or.inl ⟨by kernel_rfl, ?h12⟩) hHeld ?_
        case h12 => intro u hSw; (try dsimp only at hSw); go_simp; try with_reducible rfl
        try simp only [List.getElem_toArray]
        try simp only [List.getElem_cons_succ]
        try simp only [List.getElem_cons_zero]
        try simp only [Act.put]
        try simp only [List.setIfInBounds_toArray]
        try simp only [List.set]
        refine wpAnyH_ready (rs := [3]) (by kernel_rfl) (by simp) ?_
        refine AllReadyH.cons rfl (fun K hK => ?_) AllReadyH.nil
        obtain ⟨o0, o1, o2, o3, o4, o5, o6, o7, o8, o9⟩ := O
        dsimp only at o0 o1 o2 o3 o4 o5 o6 o7 o8 o9
        have q0 := fO 0
        have q1 := fO 1
        have q2 := fO 2
        have q3 := fO 3
        have q4 := fO 4
        have q5 := fO 5
        have q6 := fO 6
        have q7 := fO 7
        have q8 := fO 8
        have q9 := fO 9
        go_simp
        refine hK.out _ _ (hHeld.turned (lo := ob) (hi := ob + 1) (((((((((((Turned.refl _ _ _).setCell (p := ⟨ob, 0, none⟩) (Nat.le_refl _) (Nat.lt_succ_self _) _).setCell (p := ⟨ob, 1, none⟩) (Nat.le_refl _) (Nat.lt_succ_self _) _).setCell (p := ⟨ob, 2, none⟩) (Nat.le_refl _) (Nat.lt_succ_self _) _).setCell (p := ⟨ob, 3, none⟩) (Nat.le_refl _) (Nat.lt_succ_self _) _).setCell (p := ⟨ob, 4, none⟩) (Nat.le_refl _) (Nat.lt_succ_self _) _).setCell (p := ⟨ob, 5, none⟩) (Nat.le_refl _) (Nat.lt_succ_self _) _).setCell (p := ⟨ob, 6, none⟩) (Nat.le_refl _) (Nat.lt_succ_self _) _).setCell (p := ⟨ob, 7, none⟩) (Nat.le_refl _) (Nat.lt_succ_self _) _).setCell (p := ⟨ob, 8, none⟩) (Nat.le_refl _) (Nat.lt_succ_self _) _).setCell (p := ⟨ob, 9, none⟩) (Nat.le_refl _) (Nat.lt_succ_self _) _) (.inr (by omega))) (fun hHeld => ?_)
        clear hK K
        try simp only [Act.put]
        try simp only [List.setIfInBounds_toArray]
        try simp only [List.set]
        refine wpAnyH_done (by kernel_rfl) ?_ _
        clear hHeld
        go_wp2_with fail
        refine bodyPost_ret (v := .tuple #[.slice vl m cl, .agg #[.bool false, .int .i64 nt, .int .i64 nk, .int .i64 nv, .string ns, .bool true, .int .i64 xt, .int .i64 xk, .int .i64 xv, .string xs]]) (by simp [results, Try.results5, go_sem, *]) rfl ?_
        exact ⟨vl, cl, cs, ⟨false, ⟨nt, nk, nv, ns⟩, true, ⟨xt, xk, xv, xs⟩⟩, by rw [HM2.out]; rfl, by rw [HM2.out]; omega, HSh.out, HY.out.1, HY.out.2, HG.out _ (((((((((((Turned.refl _ _ _).setCell (p := ⟨ob, 0, none⟩) (Nat.le_refl _) (Nat.lt_succ_self _) _).setCell (p := ⟨ob, 1, none⟩) (Nat.le_refl _) (Nat.lt_succ_self _) _).setCell (p := ⟨ob, 2, none⟩) (Nat.le_refl _) (Nat.lt_succ_self _) _).setCell (p := ⟨ob, 3, none⟩) (Nat.le_refl _) (Nat.lt_succ_self _) _).setCell (p := ⟨ob, 4, none⟩) (Nat.le_refl _) (Nat.lt_succ_self _) _).setCell (p := ⟨ob, 5, none⟩) (Nat.le_refl _) (Nat.lt_succ_self _) _).setCell (p := ⟨ob, 6, none⟩) (Nat.le_refl _) (Nat.lt_succ_self _) _).setCell (p := ⟨ob, 7, none⟩) (Nat.le_refl _) (Nat.lt_succ_self _) _).setCell (p := ⟨ob, 8, none⟩) (Nat.le_refl _) (Nat.lt_succ_self _) _).setCell (p := ⟨ob, 9, none⟩) (Nat.le_refl _) (Nat.lt_succ_self _) _)⟩
    case false =>
      go_wp2_with fail
      refine (l1Next_any b a n c zs (j3 + 5 + 1) m _ hS (by omega) (by omega) (by omega)).mono ?_
      rintro e V2 ⟨⟨r, rfl, hr0, hr1⟩, t2, hS2⟩
      have C := C.turned t2 (.inr (by omega))
      have fC := froz_src t2 hlc (.inr (by omega)) fC
      have O := O.turned t2 (.inl (by omega))
      have fO := froz_src t2 hlo (.inl (by omega)) fO
      have hlc : cb < V2.heap.size := Nat.lt_of_lt_of_le hlc t2.size
      have hlo : ob < V2.heap.size := Nat.lt_of_lt_of_le hlo t2.size
      have hol := ownsRow_src hol t2 (by omega)
      have g := g.trans (t2.toBelow g.size hb1)
      clear t2 hS
      obtain ⟨i, rfl⟩ : ∃ i : Nat, r = i := ⟨r.toNat, by omega⟩
      have him : i < m := by omega
      obtain ⟨x, hx⟩ : ∃ x, cs[i]? = some x := ⟨_, List.getElem?_eq_getElem (by rw [HM.out]; exact him)⟩
      have hRl := rs_of_own hol HM.out
      obtain ⟨lb, lo, rfl, X⟩ := hRl.chg hx
      have hsx := HSh.out x (List.mem_of_getElem? hx)
      clear hRl hx
      obtain ⟨pw, ⟨bt, bk, bv, bs⟩, pi, ⟨at', ak, av, as'⟩⟩ := x
      obtain ⟨x0, x1, x2, x3, x4, x5, x6, x7, x8, x9⟩ := X
      dsimp only at x0 x1 x2 x3 x4 x5 x6 x7 x8 x9 hsx
      have him2 : (i : Int) < (m : Int) := by omega
      go_upto_region 7 with (fail)
      generalize hY : World.alloc _ _ = Y2
      have gY : Below V2.heap.size V2 Y2 := by rw [← hY]; go_grown
      have X : ChC Y2 V2.heap.size 0 ⟨pw, ⟨bt, bk, bv, bs⟩, pi, ⟨at', ak, av, as'⟩⟩ := by rw [← hY]; exact ⟨by simp [go_sem], by simp [go_sem], by simp [go_sem], by simp [go_sem], by simp [go_sem], by simp [go_sem], by simp [go_sem], by simp [go_sem], by simp [go_sem], by simp [go_sem]⟩
      have hlx : V2.heap.size < Y2.heap.size := by rw [← hY]; simp
      have C := C.below gY hlc
      have fC := froz_low gY hlc fC
      have O := O.below gY hlo
      have fO := froz_low gY hlo fO
      have hS := hS2.below gY
      have hol := ownsRow_below hol gY
      have g := g.trans (gY.mono g.size)
      have hcx : cb < V2.heap.size := hlc
      have hlc : cb < Y2.heap.size := Nat.lt_of_lt_of_le hlc gY.size
      have hlo : ob < Y2.heap.size := Nat.lt_of_lt_of_le hlo gY.size
      clear hY gY hS2 x0 x1 x2 x3 x4 x5 x6 x7 x8 x9
      obtain ⟨xb, hxb⟩ : ∃ xb, xb = V2.heap.size := ⟨_, rfl⟩
      rw [← hxb] at X hlx hcx ⊢
      have hbx : b + 1 ≤ xb := by omega
      clear hxb
      have X' := X
      obtain ⟨x0, x1, x2, x3, x4, x5, x6, x7, x8, x9⟩ := X'
      dsimp only at x0 x1 x2 x3 x4 x5 x6 x7 x8 x9
      obtain ⟨c0, c1, c2, c3, c4, c5, c6, c7, c8, c9⟩ := C
      dsimp only at c0 c1 c2 c3 c4 c5 c6 c7 c8 c9
      have f0 := fC 0
      have f1 := fC 1
      have f2 := fC 2
      have f3 := fC 3
      have f4 := fC 4
      have f5 := fC 5
      have f6 := fC 6
      have f7 := fC 7
      have f8 := fC 8
      have f9 := fC 9
      have hlc0 := hlc
      go_upto_region 8 with (fail)
      generalize hU : World.setCell _ _ _ = U1
      have C : ChC U1 cb 0 ⟨pi, ⟨at', ak, av, as'⟩, pw, ⟨bt, bk, bv, bs⟩⟩ := by rw [← hU]; clear hU; exact ⟨by simp [go_sem, *], by simp [go_sem, *], by simp [go_sem, *], by simp [go_sem, *], by simp [go_sem, *], by simp [go_sem, *], by simp [go_sem, *], by simp [go_sem, *], by simp [go_sem, *], by simp [go_sem, *]⟩
      have fC : ∀ o, U1.frozen? ⟨cb, o, none⟩ = false := by intro o; rw [← hU]; simp [go_sem, fC]
      have tU : Turned cb (cb + 1) Y2 U1 := by rw [← hU]; exact (((((((((((Turned.refl _ _ _).setCell (p := ⟨cb, 0, none⟩) (Nat.le_refl _) (Nat.lt_succ_self _) _).setCell (p := ⟨cb, 1, none⟩) (Nat.le_refl _) (Nat.lt_succ_self _) _).setCell (p := ⟨cb, 2, none⟩) (Nat.le_refl _) (Nat.lt_succ_self _) _).setCell (p := ⟨cb, 3, none⟩) (Nat.le_refl _) (Nat.lt_succ_self _) _).setCell (p := ⟨cb, 4, none⟩) (Nat.le_refl _) (Nat.lt_succ_self _) _).setCell (p := ⟨cb, 5, none⟩) (Nat.le_refl _) (Nat.lt_succ_self _) _).setCell (p := ⟨cb, 6, none⟩) (Nat.le_refl _) (Nat.lt_succ_self _) _).setCell (p := ⟨cb, 7, none⟩) (Nat.le_refl _) (Nat.lt_succ_self _) _).setCell (p := ⟨cb, 8, none⟩) (Nat.le_refl _) (Nat.lt_succ_self _) _).setCell (p := ⟨cb, 9, none⟩) (Nat.le_refl _) (Nat.lt_succ_self _) _)
      have hS : SrcAt U1 b a n c zs (j3 + 5 + 1 + 1) := by rw [← hU]; exact ((((((((((hS.setFar (p := ⟨cb, 0, none⟩) (by simp only; omega) _).setFar (p := ⟨cb, 1, none⟩) (by simp only; omega) _).setFar (p := ⟨cb, 2, none⟩) (by simp only; omega) _).setFar (p := ⟨cb, 3, none⟩) (by simp only; omega) _).setFar (p := ⟨cb, 4, none⟩) (by simp only; omega) _).setFar (p := ⟨cb, 5, none⟩) (by simp only; omega) _).setFar (p := ⟨cb, 6, none⟩) (by simp only; omega) _).setFar (p := ⟨cb, 7, none⟩) (by simp only; omega) _).setFar (p := ⟨cb, 8, none⟩) (by simp only; omega) _).setFar (p := ⟨cb, 9, none⟩) (by simp only; omega) _)
      have O := O.turned tU (.inl (by omega))
      have fO := froz_src tU hlo (.inl (by omega)) fO
      have hlo : ob < U1.heap.size := Nat.lt_of_lt_of_le hlo tU.size
      have hlc : cb < U1.heap.size := Nat.lt_of_lt_of_le hlc tU.size
      have gU : Below cb Y2 U1 := tU.toBelow (Nat.le_of_lt hlc0) (Nat.le_refl _)
      have hol := ownsRow_low hol gU hlow
      have g := g.trans (gU.mono (by omega))
      have X := X.turned tU (.inr (by omega))
      have hlx : xb < U1.heap.size := Nat.lt_of_lt_of_le hlx tU.size
      clear hU tU gU c0 c1 c2 c3 c4 c5 c6 c7 c8 c9 f0 f1 f2 f3 f4 f5 f6 f7 f8 f9 x0 x1 x2 x3 x4 x5 x6 x7 x8 x9
      cases pi
      case false =>
        have x5 := X.c5
        dsimp only at x5
        clear X
        go_wp2_with fail
        refine (l1Chance_any b a n c zs (j3 + 5 + 1 + 1) 10 _ hS (by omega) (by omega) (by omega)).mono ?_
        rintro e V8 ⟨⟨z, rfl⟩, t8, hS8⟩
        have C := C.turned t8 (.inr (by omega))
        have fC := froz_src t8 hlc (.inr (by omega)) fC
        have O := O.turned t8 (.inl (by omega))
        have fO := froz_src t8 hlo (.inl (by omega)) fO
        have hlc : cb < V8.heap.size := Nat.lt_of_lt_of_le hlc t8.size
        have hlo : ob < V8.heap.size := Nat.lt_of_lt_of_le hlo t8.size
        have hol := ownsRow_src hol t8 (by omega)
        have g := g.trans (t8.toBelow g.size hb1)
        clear t8 hS
        cases z
        case false =>
          have HG : Hid (∀ V', Turned ob (ob + 1) V8.drew V' → Rs chE 10 V' (some ⟨lb, lo, none⟩) cs ∧ Below w.heap.size w V') := fun V' t' => by
            have t := (Turned.ofBelow (lo := ob) (hi := ob + 1) (Below.refl V8.heap.size V8).drew).trans t'
            exact ⟨rs_of_own (ownsRow_src hol t (by omega)) HM.out, g.trans (t.toBelow g.size hob)⟩
          have HM2 : Hid (cs.length = m) := HM.out
          have HY : Hid (ByteArray.size as' ≤ 9 ∧ ByteArray.size bs ≤ 9) := ⟨hsx.2, hsx.1⟩
          clear hol g
          go_upto_region 14 with (fail)
          refine wp_region_held_drew (S := fun U => ChC U cb 0 ⟨false, ⟨at', ak, av, as'⟩, pw, ⟨bt, bk, bv, bs⟩⟩) (by kernel_rfl) (C.below (Below.refl V8.heap.size V8).drew hlc) (fun hHeld => ?_)
          have O := O.below (Below.refl V8.heap.size V8).drew hlo
          have fO := froz_low (Below.refl V8.heap.size V8).drew hlo fO
          generalize V8.drew = D at hHeld O fO HG ⊢
          clear C fC hlc hlo
          refine wpAnyH_take (i := 0) (v := ?v13) rfl (by kernel_rfl) (by kernel_rfl) (by kernel_rfl) (fun _ _ _ h => h) (Or.inl ⟨by kernel_rfl, ?h13⟩) hHeld ?_
          case h13 => intro u hSw; (try dsimp only at hSw); go_simp; try with_reducible rfl
          try simp only [List.getElem_toArray]
          try simp only [List.getElem_cons_succ]
          try simp only [List.getElem_cons_zero]
          try simp only [Act.put]
          try simp only [List.setIfInBounds_toArray]
          try simp only [List.set]
          refine wpAnyH_take (i := 1) (v := ?v14) rfl (by kernel_rfl) (by kernel_rfl) (by kernel_rfl) (fun _ _ _ h => h) (Or.inl ⟨by kernel_rfl, ?h14⟩) hHeld ?_
          case h14 => intro u hSw; (obtain ⟨c0, c1, c2, c3, c4, c5, c6, c7, c8, c9⟩ := hSw; dsimp only at c0 c1 c2 c3 c4 c5 c6 c7 c8 c9); go_simp; try with_reducible rfl
          try simp only [List.getElem_toArray]
          try simp only [List.getElem_cons_succ]
          try simp only [List.getElem_cons_zero]
          try simp only [Act.put]
          try simp only [List.setIfInBounds_toArray]
          try simp only [List.set]
          refine wpAnyH_take (i := 2) (v := ?v15) rfl (by kernel_rfl) (by kernel_rfl) (by kernel_rfl) (fun _ _ _ h => h) (Or.inl ⟨by kernel_rfl, ?h15⟩) hHeld ?_
          case h15 => intro u hSw; (try dsimp only at hSw); go_simp; try with_reducible rfl
          try simp only [List.getElem_toArray]
          try simp only [List.getElem_cons_succ]
          try simp only [List.getElem_cons_zero]
          try simp only [Act.put]
          try simp only [List.setIfInBounds_toArray]
          try simp only [List.set]
          refine wpAnyH_ready (rs := [3]) (by kernel_rfl) (by simp) ?_
          refine AllReadyH.cons rfl (fun K hK => ?_) AllReadyH.nil
          obtain ⟨o0, o1, o2, o3, o4, o5, o6, o7, o8, o9⟩ := O
          dsimp only at o0 o1 o2 o3 o4 o5 o6 o7 o8 o9
          have q0 := fO 0
          have q1 := fO 1
          have q2 := fO 2
          have q3 := fO 3
          have q4 := fO 4
          have q5 := fO 5
          have q6 := fO 6
          have q7 := fO 7
          have q8 := fO 8
          have q9 := fO 9
          go_simp
          refine hK.out _ _ (hHeld.turned (lo := ob) (hi := ob + 1) (((((((((((Turned.refl _ _ _).setCell (p := ⟨ob, 0, none⟩) (Nat.le_refl _) (Nat.lt_succ_self _) _).setCell (p := ⟨ob, 1, none⟩) (Nat.le_refl _) (Nat.lt_succ_self _) _).setCell (p := ⟨ob, 2, none⟩) (Nat.le_refl _) (Nat.lt_succ_self _) _).setCell (p := ⟨ob, 3, none⟩) (Nat.le_refl _) (Nat.lt_succ_self _) _).setCell (p := ⟨ob, 4, none⟩) (Nat.le_refl _) (Nat.lt_succ_self _) _).setCell (p := ⟨ob, 5, none⟩) (Nat.le_refl _) (Nat.lt_succ_self _) _).setCell (p := ⟨ob, 6, none⟩) (Nat.le_refl _) (Nat.lt_succ_self _) _).setCell (p := ⟨ob, 7, none⟩) (Nat.le_refl _) (Nat.lt_succ_self _) _).setCell (p := ⟨ob, 8, none⟩) (Nat.le_refl _) (Nat.lt_succ_self _) _).setCell (p := ⟨ob, 9, none⟩) (Nat.le_refl _) (Nat.lt_succ_self _) _) (.inr (by omega))) (fun hHeld => ?_)
          clear hK K
          try simp only [Act.put]
          try simp only [List.setIfInBounds_toArray]
          try simp only [List.set]
          refine wpAnyH_done (by kernel_rfl) ?_ _
          clear hHeld
          go_wp2_with fail
          refine bodyPost_ret (v := .tuple #[.slice (some ⟨lb, lo, none⟩) m cl, .agg #[.bool false, .int .i64 at', .int .i64 ak, .int .i64 av, .string as', .bool pw, .int .i64 bt, .int .i64 bk, .int .i64 bv, .string bs]]) (by simp [results, Try.results5, go_sem, *]) rfl ?_
          exact ⟨(some ⟨lb, lo, none⟩), cl, cs, ⟨false, ⟨at', ak, av, as'⟩, pw, ⟨bt, bk, bv, bs⟩⟩, by rw [HM2.out]; rfl, by rw [HM2.out]; omega, HSh.out, HY.out.1, HY.out.2, HG.out _ (((((((((((Turned.refl _ _ _).setCell (p := ⟨ob, 0, none⟩) (Nat.le_refl _) (Nat.lt_succ_self _) _).setCell (p := ⟨ob, 1, none⟩) (Nat.le_refl _) (Nat.lt_succ_self _) _).setCell (p := ⟨ob, 2, none⟩) (Nat.le_refl _) (Nat.lt_succ_self _) _).setCell (p := ⟨ob, 3, none⟩) (Nat.le_refl _) (Nat.lt_succ_self _) _).setCell (p := ⟨ob, 4, none⟩) (Nat.le_refl _) (Nat.lt_succ_self _) _).setCell (p := ⟨ob, 5, none⟩) (Nat.le_refl _) (Nat.lt_succ_self _) _).setCell (p := ⟨ob, 6, none⟩) (Nat.le_refl _) (Nat.lt_succ_self _) _).setCell (p := ⟨ob, 7, none⟩) (Nat.le_refl _) (Nat.lt_succ_self _) _).setCell (p := ⟨ob, 8, none⟩) (Nat.le_refl _) (Nat.lt_succ_self _) _).setCell (p := ⟨ob, 9, none⟩) (Nat.le_refl _) (Nat.lt_succ_self _) _)⟩
        case true =>
          go_wp2_with fail
          refine (l1Bent_any b a n c zs (j3 + 5 + 1 + 1 + 1) _ hS8 (by omega)).mono ?_
          rintro e V9 ⟨⟨nt, nk, nv, ns, rfl, hns⟩, t9, j9, hj9, hS9⟩
          have C := C.turned t9 (.inr (by omega))
          have fC := froz_src t9 hlc (.inr (by omega)) fC
          have O := O.turned t9 (.inl (by omega))
          have fO := froz_src t9 hlo (.inl (by omega)) fO
          have hlc : cb < V9.heap.size := Nat.lt_of_lt_of_le hlc t9.size
          have hlo : ob < V9.heap.size := Nat.lt_of_lt_of_le hlo t9.size
          have hol := ownsRow_src hol t9 (by omega)
          have g := g.trans (t9.toBelow g.size hb1)
          clear t9 hS8
          obtain ⟨c0, c1, c2, c3, c4, c5, c6, c7, c8, c9⟩ := C
          dsimp only at c0 c1 c2 c3 c4 c5 c6 c7 c8 c9
          have f0 := fC 0
          have f1 := fC 1
          have f2 := fC 2
          have f3 := fC 3
          have f4 := fC 4
          have f5 := fC 5
          have f6 := fC 6
          have f7 := fC 7
          have f8 := fC 8
          have f9 := fC 9
          have hlc0 := hlc
          go_upto_region 14 with (fail)
          generalize hU : World.setCell _ _ _ = U6
          have C : ChC U6 cb 0 ⟨false, ⟨nt, nk, nv, ns⟩, pw, ⟨bt, bk, bv, bs⟩⟩ := by rw [← hU]; clear hU; exact ⟨by simp [go_sem, *], by simp [go_sem, *], by simp [go_sem, *], by simp [go_sem, *], by simp [go_sem, *], by simp [go_sem, *], by simp [go_sem, *], by simp [go_sem, *], by simp [go_sem, *], by simp [go_sem, *]⟩
          have fC : ∀ o, U6.frozen? ⟨cb, o, none⟩ = false := by intro o; rw [← hU]; simp [go_sem, fC]
          have tU : Turned cb (cb + 1) V9 U6 := by rw [← hU]; exact (((((Turned.refl _ _ _).setCell (p := ⟨cb, 1, none⟩) (Nat.le_refl _) (Nat.lt_succ_self _) _).setCell (p := ⟨cb, 2, none⟩) (Nat.le_refl _) (Nat.lt_succ_self _) _).setCell (p := ⟨cb, 3, none⟩) (Nat.le_refl _) (Nat.lt_succ_self _) _).setCell (p := ⟨cb, 4, none⟩) (Nat.le_refl _) (Nat.lt_succ_self _) _)
          have hS : SrcAt U6 b a n c zs j9 := by rw [← hU]; exact ((((hS9.setFar (p := ⟨cb, 1, none⟩) (by simp only; omega) _).setFar (p := ⟨cb, 2, none⟩) (by simp only; omega) _).setFar (p := ⟨cb, 3, none⟩) (by simp only; omega) _).setFar (p := ⟨cb, 4, none⟩) (by simp only; omega) _)
          have O := O.turned tU (.inl (by omega))
          have fO := froz_src tU hlo (.inl (by omega)) fO
          have hlo : ob < U6.heap.size := Nat.lt_of_lt_of_le hlo tU.size
          have hlc : cb < U6.heap.size := Nat.lt_of_lt_of_le hlc tU.size
          have gU : Below cb V9 U6 := tU.toBelow (Nat.le_of_lt hlc0) (Nat.le_refl _)
          have hol := ownsRow_low hol gU hlow
          have g := g.trans (gU.mono (by omega))
          clear hU tU gU c0 c1 c2 c3 c4 c5 c6 c7 c8 c9 f0 f1 f2 f3 f4 f5 f6 f7 f8 f9
          have HG : Hid (∀ V', Turned ob (ob + 1) U6.drew V' → Rs chE 10 V' (some ⟨lb, lo, none⟩) cs ∧ Below w.heap.size w V') := fun V' t' => by
            have t := (Turned.ofBelow (lo := ob) (hi := ob + 1) (Below.refl U6.heap.size U6).drew).trans t'
            exact ⟨rs_of_own (ownsRow_src hol t (by omega)) HM.out, g.trans (t.toBelow g.size hob)⟩
          have HM2 : Hid (cs.length = m) := HM.out
          have HY : Hid (ByteArray.size ns ≤ 9 ∧ ByteArray.size bs ≤ 9) := ⟨hns, hsx.1⟩
          clear hol g
          go_upto_region 14 with (fail)
          refine wp_region_held_drew (S := fun U => ChC U cb 0 ⟨false, ⟨nt, nk, nv, ns⟩, pw, ⟨bt, bk, bv, bs⟩⟩) (by kernel_rfl) (C.below (Below.refl U6.heap.size U6).drew hlc) (fun hHeld => ?_)
          have O := O.below (Below.refl U6.heap.size U6).drew hlo
          have fO := froz_low (Below.refl U6.heap.size U6).drew hlo fO
          generalize U6.drew = D at hHeld O fO HG ⊢
          clear C fC hlc hlo
          refine wpAnyH_take (i := 0) (v := ?v16) rfl (by kernel_rfl) (by kernel_rfl) (by kernel_rfl) (fun _ _ _ h => h) (Or.inl ⟨by kernel_rfl, ?h16⟩) hHeld ?_
          case h16 => intro u hSw; (try dsimp only at hSw); go_simp; try with_reducible rfl
          try simp only [List.getElem_toArray]
          try simp only [List.getElem_cons_succ]
          try simp only [List.getElem_cons_zero]
          try simp only [Act.put]
          try simp only [List.setIfInBounds_toArray]
          try simp only [List.set]
          refine wpAnyH_take (i := 1) (v := ?v17) rfl (by kernel_rfl) (by kernel_rfl) (by kernel_rfl) (fun _ _ _ h => h) (Or.inl ⟨by kernel_rfl, ?h17⟩) hHeld ?_
          case h17 => intro u hSw; (obtain ⟨c0, c1, c2, c3, c4, c5, c6, c7, c8, c9⟩ := hSw; dsimp only at c0 c1 c2 c3 c4 c5 c6 c7 c8 c9); go_simp; try with_reducible rfl
          try simp only [List.getElem_toArray]
          try simp only [List.getElem_cons_succ]
          try simp only [List.getElem_cons_zero]
          try simp only [Act.put]
          try simp only [List.setIfInBounds_toArray]
          try simp only [List.set]
          refine wpAnyH_take (i := 2) (v := ?v18) rfl (by kernel_rfl) (by kernel_rfl) (by kernel_rfl) (fun _ _ _ h => h) (Or.inl ⟨by kernel_rfl, ?h18⟩) hHeld ?_
          case h18 => intro u hSw; (try dsimp only at hSw); go_simp; try with_reducible rfl
          try simp only [List.getElem_toArray]
          try simp only [List.getElem_cons_succ]
          try simp only [List.getElem_cons_zero]
          try simp only [Act.put]
          try simp only [List.setIfInBounds_toArray]
          try simp only [List.set]
          refine wpAnyH_ready (rs := [3]) (by kernel_rfl) (by simp) ?_
          refine AllReadyH.cons rfl (fun K hK => ?_) AllReadyH.nil
          obtain ⟨o0, o1, o2, o3, o4, o5, o6, o7, o8, o9⟩ := O
          dsimp only at o0 o1 o2 o3 o4 o5 o6 o7 o8 o9
          have q0 := fO 0
          have q1 := fO 1
          have q2 := fO 2
          have q3 := fO 3
          have q4 := fO 4
          have q5 := fO 5
          have q6 := fO 6
          have q7 := fO 7
          have q8 := fO 8
          have q9 := fO 9
          go_simp
          refine hK.out _ _ (hHeld.turned (lo := ob) (hi := ob + 1) (((((((((((Turned.refl _ _ _).setCell (p := ⟨ob, 0, none⟩) (Nat.le_refl _) (Nat.lt_succ_self _) _).setCell (p := ⟨ob, 1, none⟩) (Nat.le_refl _) (Nat.lt_succ_self _) _).setCell (p := ⟨ob, 2, none⟩) (Nat.le_refl _) (Nat.lt_succ_self _) _).setCell (p := ⟨ob, 3, none⟩) (Nat.le_refl _) (Nat.lt_succ_self _) _).setCell (p := ⟨ob, 4, none⟩) (Nat.le_refl _) (Nat.lt_succ_self _) _).setCell (p := ⟨ob, 5, none⟩) (Nat.le_refl _) (Nat.lt_succ_self _) _).setCell (p := ⟨ob, 6, none⟩) (Nat.le_refl _) (Nat.lt_succ_self _) _).setCell (p := ⟨ob, 7, none⟩) (Nat.le_refl _) (Nat.lt_succ_self _) _).setCell (p := ⟨ob, 8, none⟩) (Nat.le_refl _) (Nat.lt_succ_self _) _).setCell (p := ⟨ob, 9, none⟩) (Nat.le_refl _) (Nat.lt_succ_self _) _) (.inr (by omega))) (fun hHeld => ?_)
          clear hK K
          try simp only [Act.put]
          try simp only [List.setIfInBounds_toArray]
          try simp only [List.set]
          refine wpAnyH_done (by kernel_rfl) ?_ _
          clear hHeld
          go_wp2_with fail
          refine bodyPost_ret (v := .tuple #[.slice (some ⟨lb, lo, none⟩) m cl, .agg #[.bool false, .int .i64 nt, .int .i64 nk, .int .i64 nv, .string ns, .bool pw, .int .i64 bt, .int .i64 bk, .int .i64 bv, .string bs]]) (by simp [results, Try.results5, go_sem, *]) rfl ?_
          exact ⟨(some ⟨lb, lo, none⟩), cl, cs, ⟨false, ⟨nt, nk, nv, ns⟩, pw, ⟨bt, bk, bv, bs⟩⟩, by rw [HM2.out]; rfl, by rw [HM2.out]; omega, HSh.out, HY.out.1, HY.out.2, HG.out _ (((((((((((Turned.refl _ _ _).setCell (p := ⟨ob, 0, none⟩) (Nat.le_refl _) (Nat.lt_succ_self _) _).setCell (p := ⟨ob, 1, none⟩) (Nat.le_refl _) (Nat.lt_succ_self _) _).setCell (p := ⟨ob, 2, none⟩) (Nat.le_refl _) (Nat.lt_succ_self _) _).setCell (p := ⟨ob, 3, none⟩) (Nat.le_refl _) (Nat.lt_succ_self _) _).setCell (p := ⟨ob, 4, none⟩) (Nat.le_refl _) (Nat.lt_succ_self _) _).setCell (p := ⟨ob, 5, none⟩) (Nat.le_refl _) (Nat.lt_succ_self _) _).setCell (p := ⟨ob, 6, none⟩) (Nat.le_refl _) (Nat.lt_succ_self _) _).setCell (p := ⟨ob, 7, none⟩) (Nat.le_refl _) (Nat.lt_succ_self _) _).setCell (p := ⟨ob, 8, none⟩) (Nat.le_refl _) (Nat.lt_succ_self _) _).setCell (p := ⟨ob, 9, none⟩) (Nat.le_refl _) (Nat.lt_succ_self _) _)⟩
      case true =>
        have x5 := X.c5
        dsimp only at x5
        go_wp2_with fail
        refine (l1Chance_any b a n c zs (j3 + 5 + 1 + 1) 2 _ hS (by omega) (by omega) (by omega)).mono ?_
        rintro e V3 ⟨⟨z, rfl⟩, t3, hS3⟩
        have C := C.turned t3 (.inr (by omega))
        have fC := froz_src t3 hlc (.inr (by omega)) fC
        have O := O.turned t3 (.inl (by omega))
        have fO := froz_src t3 hlo (.inl (by omega)) fO
        have hlc : cb < V3.heap.size := Nat.lt_of_lt_of_le hlc t3.size
        have hlo : ob < V3.heap.size := Nat.lt_of_lt_of_le hlo t3.size
        have hol := ownsRow_src hol t3 (by omega)
        have g := g.trans (t3.toBelow g.size hb1)
        have X := X.turned t3 (.inr (by omega))
        have hlx : xb < V3.heap.size := Nat.lt_of_lt_of_le hlx t3.size
        clear t3 hS x5
        have hS := hS3
        clear hS3
        cases z
        case false =>
          clear X
          go_wp2_with fail
          refine (l1Chance_any b a n c zs (j3 + 5 + 1 + 1 + 1) 10 _ hS (by omega) (by omega) (by omega)).mono ?_
          rintro e V8 ⟨⟨z, rfl⟩, t8, hS8⟩
          have C := C.turned t8 (.inr (by omega))
          have fC := froz_src t8 hlc (.inr (by omega)) fC
          have O := O.turned t8 (.inl (by omega))
          have fO := froz_src t8 hlo (.inl (by omega)) fO
          have hlc : cb < V8.heap.size := Nat.lt_of_lt_of_le hlc t8.size
          have hlo : ob < V8.heap.size := Nat.lt_of_lt_of_le hlo t8.size
          have hol := ownsRow_src hol t8 (by omega)
          have g := g.trans (t8.toBelow g.size hb1)
          clear t8 hS
          cases z
          case false =>
            have HG : Hid (∀ V', Turned ob (ob + 1) V8.drew V' → Rs chE 10 V' (some ⟨lb, lo, none⟩) cs ∧ Below w.heap.size w V') := fun V' t' => by
              have t := (Turned.ofBelow (lo := ob) (hi := ob + 1) (Below.refl V8.heap.size V8).drew).trans t'
              exact ⟨rs_of_own (ownsRow_src hol t (by omega)) HM.out, g.trans (t.toBelow g.size hob)⟩
            have HM2 : Hid (cs.length = m) := HM.out
            have HY : Hid (ByteArray.size as' ≤ 9 ∧ ByteArray.size bs ≤ 9) := ⟨hsx.2, hsx.1⟩
            clear hol g
            go_upto_region 14 with (fail)
            refine wp_region_held_drew (S := fun U => ChC U cb 0 ⟨true, ⟨at', ak, av, as'⟩, pw, ⟨bt, bk, bv, bs⟩⟩) (by kernel_rfl) (C.below (Below.refl V8.heap.size V8).drew hlc) (fun hHeld => ?_)
            have O := O.below (Below.refl V8.heap.size V8).drew hlo
            have fO := froz_low (Below.refl V8.heap.size V8).drew hlo fO
            generalize V8.drew = D at hHeld O fO HG ⊢
            clear C fC hlc hlo
            refine wpAnyH_take (i := 0) (v := ?v19) rfl (by kernel_rfl) (by kernel_rfl) (by kernel_rfl) (fun _ _ _ h => h) (Or.inl ⟨by kernel_rfl, ?h19⟩) hHeld ?_
            case h19 => intro u hSw; (try dsimp only at hSw); go_simp; try with_reducible rfl
            try simp only [List.getElem_toArray]
            try simp only [List.getElem_cons_succ]
            try simp only [List.getElem_cons_zero]
            try simp only [Act.put]
            try simp only [List.setIfInBounds_toArray]
            try simp only [List.set]
            refine wpAnyH_take (i := 1) (v := ?v20) rfl (by kernel_rfl) (by kernel_rfl) (by kernel_rfl) (fun _ _ _ h => h) (Or.inl ⟨by kernel_rfl, ?h20⟩) hHeld ?_
            case h20 => intro u hSw; (obtain ⟨c0, c1, c2, c3, c4, c5, c6, c7, c8, c9⟩ := hSw; dsimp only at c0 c1 c2 c3 c4 c5 c6 c7 c8 c9); go_simp; try with_reducible rfl
            try simp only [List.getElem_toArray]
            try simp only [List.getElem_cons_succ]
            try simp only [List.getElem_cons_zero]
            try simp only [Act.put]
            try simp only [List.setIfInBounds_toArray]
            try simp only [List.set]
            refine wpAnyH_take (i := 2) (v := ?v21) rfl (by kernel_rfl) (by kernel_rfl) (by kernel_rfl) (fun _ _ _ h => h) (Or.inl ⟨by kernel_rfl, ?h21⟩) hHeld ?_
            case h21 => intro u hSw; (try dsimp only at hSw); go_simp; try with_reducible rfl
            try simp only [List.getElem_toArray]
            try simp only [List.getElem_cons_succ]
            try simp only [List.getElem_cons_zero]
            try simp only [Act.put]
            try simp only [List.setIfInBounds_toArray]
            try simp only [List.set]
            refine wpAnyH_ready (rs := [3]) (by kernel_rfl) (by simp) ?_
            refine AllReadyH.cons rfl (fun K hK => ?_) AllReadyH.nil
            obtain ⟨o0, o1, o2, o3, o4, o5, o6, o7, o8, o9⟩ := O
            dsimp only at o0 o1 o2 o3 o4 o5 o6 o7 o8 o9
            have q0 := fO 0
            have q1 := fO 1
            have q2 := fO 2
            have q3 := fO 3
            have q4 := fO 4
            have q5 := fO 5
            have q6 := fO 6
            have q7 := fO 7
            have q8 := fO 8
            have q9 := fO 9
            go_simp
            refine hK.out _ _ (hHeld.turned (lo := ob) (hi := ob + 1) (((((((((((Turned.refl _ _ _).setCell (p := ⟨ob, 0, none⟩) (Nat.le_refl _) (Nat.lt_succ_self _) _).setCell (p := ⟨ob, 1, none⟩) (Nat.le_refl _) (Nat.lt_succ_self _) _).setCell (p := ⟨ob, 2, none⟩) (Nat.le_refl _) (Nat.lt_succ_self _) _).setCell (p := ⟨ob, 3, none⟩) (Nat.le_refl _) (Nat.lt_succ_self _) _).setCell (p := ⟨ob, 4, none⟩) (Nat.le_refl _) (Nat.lt_succ_self _) _).setCell (p := ⟨ob, 5, none⟩) (Nat.le_refl _) (Nat.lt_succ_self _) _).setCell (p := ⟨ob, 6, none⟩) (Nat.le_refl _) (Nat.lt_succ_self _) _).setCell (p := ⟨ob, 7, none⟩) (Nat.le_refl _) (Nat.lt_succ_self _) _).setCell (p := ⟨ob, 8, none⟩) (Nat.le_refl _) (Nat.lt_succ_self _) _).setCell (p := ⟨ob, 9, none⟩) (Nat.le_refl _) (Nat.lt_succ_self _) _) (.inr (by omega))) (fun hHeld => ?_)
            clear hK K
            try simp only [Act.put]
            try simp only [List.setIfInBounds_toArray]
            try simp only [List.set]
            refine wpAnyH_done (by kernel_rfl) ?_ _
            clear hHeld
            go_wp2_with fail
            refine bodyPost_ret (v := .tuple #[.slice (some ⟨lb, lo, none⟩) m cl, .agg #[.bool true, .int .i64 at', .int .i64 ak, .int .i64 av, .string as', .bool pw, .int .i64 bt, .int .i64 bk, .int .i64 bv, .string bs]]) (by simp [results, Try.results5, go_sem, *]) rfl ?_
            exact ⟨(some ⟨lb, lo, none⟩), cl, cs, ⟨true, ⟨at', ak, av, as'⟩, pw, ⟨bt, bk, bv, bs⟩⟩, by rw [HM2.out]; rfl, by rw [HM2.out]; omega, HSh.out, HY.out.1, HY.out.2, HG.out _ (((((((((((Turned.refl _ _ _).setCell (p := ⟨ob, 0, none⟩) (Nat.le_refl _) (Nat.lt_succ_self _) _).setCell (p := ⟨ob, 1, none⟩) (Nat.le_refl _) (Nat.lt_succ_self _) _).setCell (p := ⟨ob, 2, none⟩) (Nat.le_refl _) (Nat.lt_succ_self _) _).setCell (p := ⟨ob, 3, none⟩) (Nat.le_refl _) (Nat.lt_succ_self _) _).setCell (p := ⟨ob, 4, none⟩) (Nat.le_refl _) (Nat.lt_succ_self _) _).setCell (p := ⟨ob, 5, none⟩) (Nat.le_refl _) (Nat.lt_succ_self _) _).setCell (p := ⟨ob, 6, none⟩) (Nat.le_refl _) (Nat.lt_succ_self _) _).setCell (p := ⟨ob, 7, none⟩) (Nat.le_refl _) (Nat.lt_succ_self _) _).setCell (p := ⟨ob, 8, none⟩) (Nat.le_refl _) (Nat.lt_succ_self _) _).setCell (p := ⟨ob, 9, none⟩) (Nat.le_refl _) (Nat.lt_succ_self _) _)⟩
          case true =>
            go_wp2_with fail
            refine (l1Bent_any b a n c zs (j3 + 5 + 1 + 1 + 1 + 1) _ hS8 (by omega)).mono ?_
            rintro e V9 ⟨⟨nt, nk, nv, ns, rfl, hns⟩, t9, j9, hj9, hS9⟩
            have C := C.turned t9 (.inr (by omega))
            have fC := froz_src t9 hlc (.inr (by omega)) fC
            have O := O.turned t9 (.inl (by omega))
            have fO := froz_src t9 hlo (.inl (by omega)) fO
            have hlc : cb < V9.heap.size := Nat.lt_of_lt_of_le hlc t9.size
            have hlo : ob < V9.heap.size := Nat.lt_of_lt_of_le hlo t9.size
            have hol := ownsRow_src hol t9 (by omega)
            have g := g.trans (t9.toBelow g.size hb1)
            clear t9 hS8
            obtain ⟨c0, c1, c2, c3, c4, c5, c6, c7, c8, c9⟩ := C
            dsimp only at c0 c1 c2 c3 c4 c5 c6 c7 c8 c9
            have f0 := fC 0
            have f1 := fC 1
            have f2 := fC 2
            have f3 := fC 3
            have f4 := fC 4
            have f5 := fC 5
            have f6 := fC 6
            have f7 := fC 7
            have f8 := fC 8
            have f9 := fC 9
            have hlc0 := hlc
            go_upto_region 14 with (fail)
            generalize hU : World.setCell _ _ _ = U7
            have C : ChC U7 cb 0 ⟨true, ⟨nt, nk, nv, ns⟩, pw, ⟨bt, bk, bv, bs⟩⟩ := by rw [← hU]; clear hU; exact ⟨by simp [go_sem, *], by simp [go_sem, *], by simp [go_sem, *], by simp [go_sem, *], by simp [go_sem, *], by simp [go_sem, *], by simp [go_sem, *], by simp [go_sem, *], by simp [go_sem, *], by simp [go_sem, *]⟩
            have fC : ∀ o, U7.frozen? ⟨cb, o, none⟩ = false := by intro o; rw [← hU]; simp [go_sem, fC]
            have tU : Turned cb (cb + 1) V9 U7 := by rw [← hU]; exact (((((Turned.refl _ _ _).setCell (p := ⟨cb, 1, none⟩) (Nat.le_refl _) (Nat.lt_succ_self _) _).setCell (p := ⟨cb, 2, none⟩) (Nat.le_refl _) (Nat.lt_succ_self _) _).setCell (p := ⟨cb, 3, none⟩) (Nat.le_refl _) (Nat.lt_succ_self _) _).setCell (p := ⟨cb, 4, none⟩) (Nat.le_refl _) (Nat.lt_succ_self _) _)
            have hS : SrcAt U7 b a n c zs j9 := by rw [← hU]; exact ((((hS9.setFar (p := ⟨cb, 1, none⟩) (by simp only; omega) _).setFar (p := ⟨cb, 2, none⟩) (by simp only; omega) _).setFar (p := ⟨cb, 3, none⟩) (by simp only; omega) _).setFar (p := ⟨cb, 4, none⟩) (by simp only; omega) _)
            have O := O.turned tU (.inl (by omega))
            have fO := froz_src tU hlo (.inl (by omega)) fO
            have hlo : ob < U7.heap.size := Nat.lt_of_lt_of_le hlo tU.size
            have hlc : cb < U7.heap.size := Nat.lt_of_lt_of_le hlc tU.size
            have gU : Below cb V9 U7 := tU.toBelow (Nat.le_of_lt hlc0) (Nat.le_refl _)
            have hol := ownsRow_low hol gU hlow
            have g := g.trans (gU.mono (by omega))
            clear hU tU gU c0 c1 c2 c3 c4 c5 c6 c7 c8 c9 f0 f1 f2 f3 f4 f5 f6 f7 f8 f9
            have HG : Hid (∀ V', Turned ob (ob + 1) U7.drew V' → Rs chE 10 V' (some ⟨lb, lo, none⟩) cs ∧ Below w.heap.size w V') := fun V' t' => by
              have t := (Turned.ofBelow (lo := ob) (hi := ob + 1) (Below.refl U7.heap.size U7).drew).trans t'
              exact ⟨rs_of_own (ownsRow_src hol t (by omega)) HM.out, g.trans (t.toBelow g.size hob)⟩
            have HM2 : Hid (cs.length = m) := HM.out
            have HY : Hid (ByteArray.size ns ≤ 9 ∧ ByteArray.size bs ≤ 9) := ⟨hns, hsx.1⟩
            clear hol g
            go_upto_region 14 with (fail)
            refine wp_region_held_drew (S := fun U => ChC U cb 0 ⟨true, ⟨nt, nk, nv, ns⟩, pw, ⟨bt, bk, bv, bs⟩⟩) (by kernel_rfl) (C.below (Below.refl U7.heap.size U7).drew hlc) (fun hHeld => ?_)
            have O := O.below (Below.refl U7.heap.size U7).drew hlo
            have fO := froz_low (Below.refl U7.heap.size U7).drew hlo fO
            generalize U7.drew = D at hHeld O fO HG ⊢
            clear C fC hlc hlo
            refine wpAnyH_take (i := 0) (v := ?v22) rfl (by kernel_rfl) (by kernel_rfl) (by kernel_rfl) (fun _ _ _ h => h) (Or.inl ⟨by kernel_rfl, ?h22⟩) hHeld ?_
            case h22 => intro u hSw; (try dsimp only at hSw); go_simp; try with_reducible rfl
            try simp only [List.getElem_toArray]
            try simp only [List.getElem_cons_succ]
            try simp only [List.getElem_cons_zero]
            try simp only [Act.put]
            try simp only [List.setIfInBounds_toArray]
            try simp only [List.set]
            refine wpAnyH_take (i := 1) (v := ?v23) rfl (by kernel_rfl) (by kernel_rfl) (by kernel_rfl) (fun _ _ _ h => h) (Or.inl ⟨by kernel_rfl, ?h23⟩) hHeld ?_
            case h23 => intro u hSw; (obtain ⟨c0, c1, c2, c3, c4, c5, c6, c7, c8, c9⟩ := hSw; dsimp only at c0 c1 c2 c3 c4 c5 c6 c7 c8 c9); go_simp; try with_reducible rfl
            try simp only [List.getElem_toArray]
            try simp only [List.getElem_cons_succ]
            try simp only [List.getElem_cons_zero]
            try simp only [Act.put]
            try simp only [List.setIfInBounds_toArray]
            try simp only [List.set]
            refine wpAnyH_take (i := 2) (v := ?v24) rfl (by kernel_rfl) (by kernel_rfl) (by kernel_rfl) (fun _ _ _ h => h) (Or.inl ⟨by kernel_rfl, ?h24⟩) hHeld ?_
            case h24 => intro u hSw; (try dsimp only at hSw); go_simp; try with_reducible rfl
            try simp only [List.getElem_toArray]
            try simp only [List.getElem_cons_succ]
            try simp only [List.getElem_cons_zero]
            try simp only [Act.put]
            try simp only [List.setIfInBounds_toArray]
            try simp only [List.set]
            refine wpAnyH_ready (rs := [3]) (by kernel_rfl) (by simp) ?_
            refine AllReadyH.cons rfl (fun K hK => ?_) AllReadyH.nil
            obtain ⟨o0, o1, o2, o3, o4, o5, o6, o7, o8, o9⟩ := O
            dsimp only at o0 o1 o2 o3 o4 o5 o6 o7 o8 o9
            have q0 := fO 0
            have q1 := fO 1
            have q2 := fO 2
            have q3 := fO 3
            have q4 := fO 4
            have q5 := fO 5
            have q6 := fO 6
            have q7 := fO 7
            have q8 := fO 8
            have q9 := fO 9
            go_simp
            refine hK.out _ _ (hHeld.turned (lo := ob) (hi := ob + 1) (((((((((((Turned.refl _ _ _).setCell (p := ⟨ob, 0, none⟩) (Nat.le_refl _) (Nat.lt_succ_self _) _).setCell (p := ⟨ob, 1, none⟩) (Nat.le_refl _) (Nat.lt_succ_self _) _).setCell (p := ⟨ob, 2, none⟩) (Nat.le_refl _) (Nat.lt_succ_self _) _).setCell (p := ⟨ob, 3, none⟩) (Nat.le_refl _) (Nat.lt_succ_self _) _).setCell (p := ⟨ob, 4, none⟩) (Nat.le_refl _) (Nat.lt_succ_self _) _).setCell (p := ⟨ob, 5, none⟩) (Nat.le_refl _) (Nat.lt_succ_self _) _).setCell (p := ⟨ob, 6, none⟩) (Nat.le_refl _) (Nat.lt_succ_self _) _).setCell (p := ⟨ob, 7, none⟩) (Nat.le_refl _) (Nat.lt_succ_self _) _).setCell (p := ⟨ob, 8, none⟩) (Nat.le_refl _) (Nat.lt_succ_self _) _).setCell (p := ⟨ob, 9, none⟩) (Nat.le_refl _) (Nat.lt_succ_self _) _) (.inr (by omega))) (fun hHeld => ?_)
            clear hK K
            try simp only [Act.put]
            try simp only [List.setIfInBounds_toArray]
            try simp only [List.set]
            refine wpAnyH_done (by kernel_rfl) ?_ _
            clear hHeld
            go_wp2_with fail
            refine bodyPost_ret (v := .tuple #[.slice (some ⟨lb, lo, none⟩) m cl, .agg #[.bool true, .int .i64 nt, .int .i64 nk, .int .i64 nv, .string ns, .bool pw, .int .i64 bt, .int .i64 bk, .int .i64 bv, .string bs]]) (by simp [results, Try.results5, go_sem, *]) rfl ?_
            exact ⟨(some ⟨lb, lo, none⟩), cl, cs, ⟨true, ⟨nt, nk, nv, ns⟩, pw, ⟨bt, bk, bv, bs⟩⟩, by rw [HM2.out]; rfl, by rw [HM2.out]; omega, HSh.out, HY.out.1, HY.out.2, HG.out _ (((((((((((Turned.refl _ _ _).setCell (p := ⟨ob, 0, none⟩) (Nat.le_refl _) (Nat.lt_succ_self _) _).setCell (p := ⟨ob, 1, none⟩) (Nat.le_refl _) (Nat.lt_succ_self _) _).setCell (p := ⟨ob, 2, none⟩) (Nat.le_refl _) (Nat.lt_succ_self _) _).setCell (p := ⟨ob, 3, none⟩) (Nat.le_refl _) (Nat.lt_succ_self _) _).setCell (p := ⟨ob, 4, none⟩) (Nat.le_refl _) (Nat.lt_succ_self _) _).setCell (p := ⟨ob, 5, none⟩) (Nat.le_refl _) (Nat.lt_succ_self _) _).setCell (p := ⟨ob, 6, none⟩) (Nat.le_refl _) (Nat.lt_succ_self _) _).setCell (p := ⟨ob, 7, none⟩) (Nat.le_refl _) (Nat.lt_succ_self _) _).setCell (p := ⟨ob, 8, none⟩) (Nat.le_refl _) (Nat.lt_succ_self _) _).setCell (p := ⟨ob, 9, none⟩) (Nat.le_refl _) (Nat.lt_succ_self _) _)⟩
        case true =>
          have X' := X
          obtain ⟨x0, x1, x2, x3, x4, x5, x6, x7, x8, x9⟩ := X'
          dsimp only at x0 x1 x2 x3 x4 x5 x6 x7 x8 x9
          obtain ⟨c0, c1, c2, c3, c4, c5, c6, c7, c8, c9⟩ := C
          dsimp only at c0 c1 c2 c3 c4 c5 c6 c7 c8 c9
          have f0 := fC 0
          have f1 := fC 1
          have f2 := fC 2
          have f3 := fC 3
          have f4 := fC 4
          have f5 := fC 5
          have f6 := fC 6
          have f7 := fC 7
          have f8 := fC 8
          have f9 := fC 9
          have hlc0 := hlc
          go_upto_region 11 with (fail)
          generalize hU : World.setCell _ _ _ = U2
          have C : ChC U2 cb 0 ⟨true, ⟨at', ak, av, as'⟩, true, ⟨at', ak, av, as'⟩⟩ := by rw [← hU]; clear hU; exact ⟨by simp [go_sem, *], by simp [go_sem, *], by simp [go_sem, *], by simp [go_sem, *], by simp [go_sem, *], by simp [go_sem, *], by simp [go_sem, *], by simp [go_sem, *], by simp [go_sem, *], by simp [go_sem, *]⟩
          have fC : ∀ o, U2.frozen? ⟨cb, o, none⟩ = false := by intro o; rw [← hU]; simp [go_sem, fC]
          have tU : Turned cb (cb + 1) V3 U2 := by rw [← hU]; exact ((((((Turned.refl _ _ _).setCell (p := ⟨cb, 5, none⟩) (Nat.le_refl _) (Nat.lt_succ_self _) _).setCell (p := ⟨cb, 6, none⟩) (Nat.le_refl _) (Nat.lt_succ_self _) _).setCell (p := ⟨cb, 7, none⟩) (Nat.le_refl _) (Nat.lt_succ_self _) _).setCell (p := ⟨cb, 8, none⟩) (Nat.le_refl _) (Nat.lt_succ_self _) _).setCell (p := ⟨cb, 9, none⟩) (Nat.le_refl _) (Nat.lt_succ_self _) _)
          have hS : SrcAt U2 b a n c zs (j3 + 5 + 1 + 1 + 1) := by rw [← hU]; exact (((((hS.setFar (p := ⟨cb, 5, none⟩) (by simp only; omega) _).setFar (p := ⟨cb, 6, none⟩) (by simp only; omega) _).setFar (p := ⟨cb, 7, none⟩) (by simp only; omega) _).setFar (p := ⟨cb, 8, none⟩) (by simp only; omega) _).setFar (p := ⟨cb, 9, none⟩) (by simp only; omega) _)
          have O := O.turned tU (.inl (by omega))
          have fO := froz_src tU hlo (.inl (by omega)) fO
          have hlo : ob < U2.heap.size := Nat.lt_of_lt_of_le hlo tU.size
          have hlc : cb < U2.heap.size := Nat.lt_of_lt_of_le hlc tU.size
          have gU : Below cb V3 U2 := tU.toBelow (Nat.le_of_lt hlc0) (Nat.le_refl _)
          have hol := ownsRow_low hol gU hlow
          have g := g.trans (gU.mono (by omega))
          clear hU tU gU c0 c1 c2 c3 c4 c5 c6 c7 c8 c9 f0 f1 f2 f3 f4 f5 f6 f7 f8 f9 x0 x1 x2 x3 x4 x5 x6 x7 x8 x9 X hlx
          go_wp2_with fail
          refine (l1Next_any b a n c zs (j3 + 5 + 1 + 1 + 1) 5 _ hS (by omega) (by omega) (by omega)).mono ?_
          rintro e V4 ⟨⟨v5, rfl, _, _⟩, t4, hS4⟩
          have C := C.turned t4 (.inr (by omega))
          have fC := froz_src t4 hlc (.inr (by omega)) fC
          have O := O.turned t4 (.inl (by omega))
          have fO := froz_src t4 hlo (.inl (by omega)) fO
          have hlc : cb < V4.heap.size := Nat.lt_of_lt_of_le hlc t4.size
          have hlo : ob < V4.heap.size := Nat.lt_of_lt_of_le hlo t4.size
          have hol := ownsRow_src hol t4 (by omega)
          have g := g.trans (t4.toBelow g.size hb1)
          clear t4 hS
          have hS := hS4
          clear hS4
          obtain ⟨c0, c1, c2, c3, c4, c5, c6, c7, c8, c9⟩ := C
          dsimp only at c0 c1 c2 c3 c4 c5 c6 c7 c8 c9
          have f0 := fC 0
          have f1 := fC 1
          have f2 := fC 2
          have f3 := fC 3
          have f4 := fC 4
          have f5 := fC 5
          have f6 := fC 6
          have f7 := fC 7
          have f8 := fC 8
          have f9 := fC 9
          have hlc0 := hlc
          go_upto_region 12 with (fail)
          generalize hU : World.setCell _ _ _ = U3
          have C : ChC U3 cb 0 ⟨true, ⟨at', ak, av, as'⟩, true, ⟨at', ak, v5, as'⟩⟩ := by rw [← hU]; clear hU; exact ⟨by simp [go_sem, *], by simp [go_sem, *], by simp [go_sem, *], by simp [go_sem, *], by simp [go_sem, *], by simp [go_sem, *], by simp [go_sem, *], by simp [go_sem, *], by simp [go_sem, *], by simp [go_sem, *]⟩
          have fC : ∀ o, U3.frozen? ⟨cb, o, none⟩ = false := by intro o; rw [← hU]; simp [go_sem, fC]
          have tU : Turned cb (cb + 1) V4 U3 := by rw [← hU]; exact ((Turned.refl _ _ _).setCell (p := ⟨cb, 8, none⟩) (Nat.le_refl _) (Nat.lt_succ_self _) _)
          have hS : SrcAt U3 b a n c zs (j3 + 5 + 1 + 1 + 1 + 1) := by rw [← hU]; exact (hS.setFar (p := ⟨cb, 8, none⟩) (by simp only; omega) _)
          have O := O.turned tU (.inl (by omega))
          have fO := froz_src tU hlo (.inl (by omega)) fO
          have hlo : ob < U3.heap.size := Nat.lt_of_lt_of_le hlo tU.size
          have hlc : cb < U3.heap.size := Nat.lt_of_lt_of_le hlc tU.size
          have gU : Below cb V4 U3 := tU.toBelow (Nat.le_of_lt hlc0) (Nat.le_refl _)
          have hol := ownsRow_low hol gU hlow
          have g := g.trans (gU.mono (by omega))
          clear hU tU gU c0 c1 c2 c3 c4 c5 c6 c7 c8 c9 f0 f1 f2 f3 f4 f5 f6 f7 f8 f9
          go_wp2_with fail
          refine (l1Chance_any b a n c zs (j3 + 5 + 1 + 1 + 1 + 1) 10 _ hS (by omega) (by omega) (by omega)).mono ?_
          rintro e V8 ⟨⟨z, rfl⟩, t8, hS8⟩
          have C := C.turned t8 (.inr (by omega))
          have fC := froz_src t8 hlc (.inr (by omega)) fC
          have O := O.turned t8 (.inl (by omega))
          have fO := froz_src t8 hlo (.inl (by omega)) fO
          have hlc : cb < V8.heap.size := Nat.lt_of_lt_of_le hlc t8.size
          have hlo : ob < V8.heap.size := Nat.lt_of_lt_of_le hlo t8.size
          have hol := ownsRow_src hol t8 (by omega)
          have g := g.trans (t8.toBelow g.size hb1)
          clear t8 hS
          cases z
          case false =>
            have HG : Hid (∀ V', Turned ob (ob + 1) V8.drew V' → Rs chE 10 V' (some ⟨lb, lo, none⟩) cs ∧ Below w.heap.size w V') := fun V' t' => by
              have t := (Turned.ofBelow (lo := ob) (hi := ob + 1) (Below.refl V8.heap.size V8).drew).trans t'
              exact ⟨rs_of_own (ownsRow_src hol t (by omega)) HM.out, g.trans (t.toBelow g.size hob)⟩
            have HM2 : Hid (cs.length = m) := HM.out
            have HY : Hid (ByteArray.size as' ≤ 9 ∧ ByteArray.size as' ≤ 9) := ⟨hsx.2, hsx.2⟩
            clear hol g
            go_upto_region 14 with (fail)
            refine wp_region_held_drew (S := fun U => ChC U cb 0 ⟨true, ⟨at', ak, av, as'⟩, true, ⟨at', ak, v5, as'⟩⟩) (by kernel_rfl) (C.below (Below.refl V8.heap.size V8).drew hlc) (fun hHeld => ?_)
            have O := O.below (Below.refl V8.heap.size V8).drew hlo
            have fO := froz_low (Below.refl V8.heap.size V8).drew hlo fO
            generalize V8.drew = D at hHeld O fO HG ⊢
            clear C fC hlc hlo
            refine wpAnyH_take (i := 0) (v := ?v25) rfl (by kernel_rfl) (by kernel_rfl) (by kernel_rfl) (fun _ _ _ h => h) (Or.inl ⟨by kernel_rfl, ?h25⟩) hHeld ?_
            case h25 => intro u hSw; (try dsimp only at hSw); go_simp; try with_reducible rfl
            try simp only [List.getElem_toArray]
            try simp only [List.getElem_cons_succ]
            try simp only [List.getElem_cons_zero]
            try simp only [Act.put]
            try simp only [List.setIfInBounds_toArray]
            try simp only [List.set]
            refine wpAnyH_take (i := 1) (v := ?v26) rfl (by kernel_rfl) (by kernel_rfl) (by kernel_rfl) (fun _ _ _ h => h) (Or.inl ⟨by kernel_rfl, ?h26⟩) hHeld ?_
            case h26 => intro u hSw; (obtain ⟨c0, c1, c2, c3, c4, c5, c6, c7, c8, c9⟩ := hSw; dsimp only at c0 c1 c2 c3 c4 c5 c6 c7 c8 c9); go_simp; try with_reducible rfl
            try simp only [List.getElem_toArray]
            try simp only [List.getElem_cons_succ]
            try simp only [List.getElem_cons_zero]
            try simp only [Act.put]
            try simp only [List.setIfInBounds_toArray]
            try simp only [List.set]
            refine wpAnyH_take (i := 2) (v := ?v27) rfl (by kernel_rfl) (by kernel_rfl) (by kernel_rfl) (fun _ _ _ h => h) (Or.inl ⟨by kernel_rfl, ?h27⟩) hHeld ?_
            case h27 => intro u hSw; (try dsimp only at hSw); go_simp; try with_reducible rfl
            try simp only [List.getElem_toArray]
            try simp only [List.getElem_cons_succ]
            try simp only [List.getElem_cons_zero]
            try simp only [Act.put]
            try simp only [List.setIfInBounds_toArray]
            try simp only [List.set]
            refine wpAnyH_ready (rs := [3]) (by kernel_rfl) (by simp) ?_
            refine AllReadyH.cons rfl (fun K hK => ?_) AllReadyH.nil
            obtain ⟨o0, o1, o2, o3, o4, o5, o6, o7, o8, o9⟩ := O
            dsimp only at o0 o1 o2 o3 o4 o5 o6 o7 o8 o9
            have q0 := fO 0
            have q1 := fO 1
            have q2 := fO 2
            have q3 := fO 3
            have q4 := fO 4
            have q5 := fO 5
            have q6 := fO 6
            have q7 := fO 7
            have q8 := fO 8
            have q9 := fO 9
            go_simp
            refine hK.out _ _ (hHeld.turned (lo := ob) (hi := ob + 1) (((((((((((Turned.refl _ _ _).setCell (p := ⟨ob, 0, none⟩) (Nat.le_refl _) (Nat.lt_succ_self _) _).setCell (p := ⟨ob, 1, none⟩) (Nat.le_refl _) (Nat.lt_succ_self _) _).setCell (p := ⟨ob, 2, none⟩) (Nat.le_refl _) (Nat.lt_succ_self _) _).setCell (p := ⟨ob, 3, none⟩) (Nat.le_refl _) (Nat.lt_succ_self _) _).setCell (p := ⟨ob, 4, none⟩) (Nat.le_refl _) (Nat.lt_succ_self _) _).setCell (p := ⟨ob, 5, none⟩) (Nat.le_refl _) (Nat.lt_succ_self _) _).setCell (p := ⟨ob, 6, none⟩) (Nat.le_refl _) (Nat.lt_succ_self _) _).setCell (p := ⟨ob, 7, none⟩) (Nat.le_refl _) (Nat.lt_succ_self _) _).setCell (p := ⟨ob, 8, none⟩) (Nat.le_refl _) (Nat.lt_succ_self _) _).setCell (p := ⟨ob, 9, none⟩) (Nat.le_refl _) (Nat.lt_succ_self _) _) (.inr (by omega))) (fun hHeld => ?_)
            clear hK K
            try simp only [Act.put]
            try simp only [List.setIfInBounds_toArray]
            try simp only [List.set]
            refine wpAnyH_done (by kernel_rfl) ?_ _
            clear hHeld
            go_wp2_with fail
            refine bodyPost_ret (v := .tuple #[.slice (some ⟨lb, lo, none⟩) m cl, .agg #[.bool true, .int .i64 at', .int .i64 ak, .int .i64 av, .string as', .bool true, .int .i64 at', .int .i64 ak, .int .i64 v5, .string as']]) (by simp [results, Try.results5, go_sem, *]) rfl ?_
            exact ⟨(some ⟨lb, lo, none⟩), cl, cs, ⟨true, ⟨at', ak, av, as'⟩, true, ⟨at', ak, v5, as'⟩⟩, by rw [HM2.out]; rfl, by rw [HM2.out]; omega, HSh.out, HY.out.1, HY.out.2, HG.out _ (((((((((((Turned.refl _ _ _).setCell (p := ⟨ob, 0, none⟩) (Nat.le_refl _) (Nat.lt_succ_self _) _).setCell (p := ⟨ob, 1, none⟩) (Nat.le_refl _) (Nat.lt_succ_self _) _).setCell (p := ⟨ob, 2, none⟩) (Nat.le_refl _) (Nat.lt_succ_self _) _).setCell (p := ⟨ob, 3, none⟩) (Nat.le_refl _) (Nat.lt_succ_self _) _).setCell (p := ⟨ob, 4, none⟩) (Nat.le_refl _) (Nat.lt_succ_self _) _).setCell (p := ⟨ob, 5, none⟩) (Nat.le_refl _) (Nat.lt_succ_self _) _).setCell (p := ⟨ob, 6, none⟩) (Nat.le_refl _) (Nat.lt_succ_self _) _).setCell (p := ⟨ob, 7, none⟩) (Nat.le_refl _) (Nat.lt_succ_self _) _).setCell (p := ⟨ob, 8, none⟩) (Nat.le_refl _) (Nat.lt_succ_self _) _).setCell (p := ⟨ob, 9, none⟩) (Nat.le_refl _) (Nat.lt_succ_self _) _)⟩
          case true =>
            go_wp2_with fail
            refine (l1Bent_any b a n c zs (j3 + 5 + 1 + 1 + 1 + 1 + 1) _ hS8 (by omega)).mono ?_
            rintro e V9 ⟨⟨nt, nk, nv, ns, rfl, hns⟩, t9, j9, hj9, hS9⟩
            have C := C.turned t9 (.inr (by omega))
            have fC := froz_src t9 hlc (.inr (by omega)) fC
            have O := O.turned t9 (.inl (by omega))
            have fO := froz_src t9 hlo (.inl (by omega)) fO
            have hlc : cb < V9.heap.size := Nat.lt_of_lt_of_le hlc t9.size
            have hlo : ob < V9.heap.size := Nat.lt_of_lt_of_le hlo t9.size
            have hol := ownsRow_src hol t9 (by omega)
            have g := g.trans (t9.toBelow g.size hb1)
            clear t9 hS8
            obtain ⟨c0, c1, c2, c3, c4, c5, c6, c7, c8, c9⟩ := C
            dsimp only at c0 c1 c2 c3 c4 c5 c6 c7 c8 c9
            have f0 := fC 0
            have f1 := fC 1
            have f2 := fC 2
            have f3 := fC 3
            have f4 := fC 4
            have f5 := fC 5
            have f6 := fC 6
            have f7 := fC 7
            have f8 := fC 8
            have f9 := fC 9
            have hlc0 := hlc
            go_upto_region 14 with (fail)
            generalize hU : World.setCell _ _ _ = U8
            have C : ChC U8 cb 0 ⟨true, ⟨nt, nk, nv, ns⟩, true, ⟨at', ak, v5, as'⟩⟩ := by rw [← hU]; clear hU; exact ⟨by simp [go_sem, *], by simp [go_sem, *], by simp [go_sem, *], by simp [go_sem, *], by simp [go_sem, *], by simp [go_sem, *], by simp [go_sem, *], by simp [go_sem, *], by simp [go_sem, *], by simp [go_sem, *]⟩
            have fC : ∀ o, U8.frozen? ⟨cb, o, none⟩ = false := by intro o; rw [← hU]; simp [go_sem, fC]
            have tU : Turned cb (cb + 1) V9 U8 := by rw [← hU]; exact (((((Turned.refl _ _ _).setCell (p := ⟨cb, 1, none⟩) (Nat.le_refl _) (Nat.lt_succ_self _) _).setCell (p := ⟨cb, 2, none⟩) (Nat.le_refl _) (Nat.lt_succ_self _) _).setCell (p := ⟨cb, 3, none⟩) (Nat.le_refl _) (Nat.lt_succ_self _) _).setCell (p := ⟨cb, 4, none⟩) (Nat.le_refl _) (Nat.lt_succ_self _) _)
            have hS : SrcAt U8 b a n c zs j9 := by rw [← hU]; exact ((((hS9.setFar (p := ⟨cb, 1, none⟩) (by simp only; omega) _).setFar (p := ⟨cb, 2, none⟩) (by simp only; omega) _).setFar (p := ⟨cb, 3, none⟩) (by simp only; omega) _).setFar (p := ⟨cb, 4, none⟩) (by simp only; omega) _)
            have O := O.turned tU (.inl (by omega))
            have fO := froz_src tU hlo (.inl (by omega)) fO
            have hlo : ob < U8.heap.size := Nat.lt_of_lt_of_le hlo tU.size
            have hlc : cb < U8.heap.size := Nat.lt_of_lt_of_le hlc tU.size
            have gU : Below cb V9 U8 := tU.toBelow (Nat.le_of_lt hlc0) (Nat.le_refl _)
            have hol := ownsRow_low hol gU hlow
            have g := g.trans (gU.mono (by omega))
            clear hU tU gU c0 c1 c2 c3 c4 c5 c6 c7 c8 c9 f0 f1 f2 f3 f4 f5 f6 f7 f8 f9
            have HG : Hid (∀ V', Turned ob (ob + 1) U8.drew V' → Rs chE 10 V' (some ⟨lb, lo, none⟩) cs ∧ Below w.heap.size w V') := fun V' t' => by
              have t := (Turned.ofBelow (lo := ob) (hi := ob + 1) (Below.refl U8.heap.size U8).drew).trans t'
              exact ⟨rs_of_own (ownsRow_src hol t (by omega)) HM.out, g.trans (t.toBelow g.size hob)⟩
            have HM2 : Hid (cs.length = m) := HM.out
            have HY : Hid (ByteArray.size ns ≤ 9 ∧ ByteArray.size as' ≤ 9) := ⟨hns, hsx.2⟩
            clear hol g
            go_upto_region 14 with (fail)
            refine wp_region_held_drew (S := fun U => ChC U cb 0 ⟨true, ⟨nt, nk, nv, ns⟩, true, ⟨at', ak, v5, as'⟩⟩) (by kernel_rfl) (C.below (Below.refl U8.heap.size U8).drew hlc) (fun hHeld => ?_)
            have O := O.below (Below.refl U8.heap.size U8).drew hlo
            have fO := froz_low (Below.refl U8.heap.size U8).drew hlo fO
            generalize U8.drew = D at hHeld O fO HG ⊢
            clear C fC hlc hlo
            refine wpAnyH_take (i := 0) (v := ?v28) rfl (by kernel_rfl) (by kernel_rfl) (by kernel_rfl) (fun _ _ _ h => h) (Or.inl ⟨by kernel_rfl, ?h28⟩) hHeld ?_
            case h28 => intro u hSw; (try dsimp only at hSw); go_simp; try with_reducible rfl
            try simp only [List.getElem_toArray]
            try simp only [List.getElem_cons_succ]
            try simp only [List.getElem_cons_zero]
            try simp only [Act.put]
            try simp only [List.setIfInBounds_toArray]
            try simp only [List.set]
            refine wpAnyH_take (i := 1) (v := ?v29) rfl (by kernel_rfl) (by kernel_rfl) (by kernel_rfl) (fun _ _ _ h => h) (Or.inl ⟨by kernel_rfl, ?h29⟩) hHeld ?_
            case h29 => intro u hSw; (obtain ⟨c0, c1, c2, c3, c4, c5, c6, c7, c8, c9⟩ := hSw; dsimp only at c0 c1 c2 c3 c4 c5 c6 c7 c8 c9); go_simp; try with_reducible rfl
            try simp only [List.getElem_toArray]
            try simp only [List.getElem_cons_succ]
            try simp only [List.getElem_cons_zero]
            try simp only [Act.put]
            try simp only [List.setIfInBounds_toArray]
            try simp only [List.set]
            refine wpAnyH_take (i := 2) (v := ?v30) rfl (by kernel_rfl) (by kernel_rfl) (by kernel_rfl) (fun _ _ _ h => h) (Or.inl ⟨by kernel_rfl, ?h30⟩) hHeld ?_
            case h30 => intro u hSw; (try dsimp only at hSw); go_simp; try with_reducible rfl
            try simp only [List.getElem_toArray]
            try simp only [List.getElem_cons_succ]
            try simp only [List.getElem_cons_zero]
            try simp only [Act.put]
            try simp only [List.setIfInBounds_toArray]
            try simp only [List.set]
            refine wpAnyH_ready (rs := [3]) (by kernel_rfl) (by simp) ?_
            refine AllReadyH.cons rfl (fun K hK => ?_) AllReadyH.nil
            obtain ⟨o0, o1, o2, o3, o4, o5, o6, o7, o8, o9⟩ := O
            dsimp only at o0 o1 o2 o3 o4 o5 o6 o7 o8 o9
            have q0 := fO 0
            have q1 := fO 1
            have q2 := fO 2
            have q3 := fO 3
            have q4 := fO 4
            have q5 := fO 5
            have q6 := fO 6
            have q7 := fO 7
            have q8 := fO 8
            have q9 := fO 9
            go_simp
            refine hK.out _ _ (hHeld.turned (lo := ob) (hi := ob + 1) (((((((((((Turned.refl _ _ _).setCell (p := ⟨ob, 0, none⟩) (Nat.le_refl _) (Nat.lt_succ_self _) _).setCell (p := ⟨ob, 1, none⟩) (Nat.le_refl _) (Nat.lt_succ_self _) _).setCell (p := ⟨ob, 2, none⟩) (Nat.le_refl _) (Nat.lt_succ_self _) _).setCell (p := ⟨ob, 3, none⟩) (Nat.le_refl _) (Nat.lt_succ_self _) _).setCell (p := ⟨ob, 4, none⟩) (Nat.le_refl _) (Nat.lt_succ_self _) _).setCell (p := ⟨ob, 5, none⟩) (Nat.le_refl _) (Nat.lt_succ_self _) _).setCell (p := ⟨ob, 6, none⟩) (Nat.le_refl _) (Nat.lt_succ_self _) _).setCell (p := ⟨ob, 7, none⟩) (Nat.le_refl _) (Nat.lt_succ_self _) _).setCell (p := ⟨ob, 8, none⟩) (Nat.le_refl _) (Nat.lt_succ_self _) _).setCell (p := ⟨ob, 9, none⟩) (Nat.le_refl _) (Nat.lt_succ_self _) _) (.inr (by omega))) (fun hHeld => ?_)
            clear hK K
            try simp only [Act.put]
            try simp only [List.setIfInBounds_toArray]
            try simp only [List.set]
            refine wpAnyH_done (by kernel_rfl) ?_ _
            clear hHeld
            go_wp2_with fail
            refine bodyPost_ret (v := .tuple #[.slice (some ⟨lb, lo, none⟩) m cl, .agg #[.bool true, .int .i64 nt, .int .i64 nk, .int .i64 nv, .string ns, .bool true, .int .i64 at', .int .i64 ak, .int .i64 v5, .string as']]) (by simp [results, Try.results5, go_sem, *]) rfl ?_
            exact ⟨(some ⟨lb, lo, none⟩), cl, cs, ⟨true, ⟨nt, nk, nv, ns⟩, true, ⟨at', ak, v5, as'⟩⟩, by rw [HM2.out]; rfl, by rw [HM2.out]; omega, HSh.out, HY.out.1, HY.out.2, HG.out _ (((((((((((Turned.refl _ _ _).setCell (p := ⟨ob, 0, none⟩) (Nat.le_refl _) (Nat.lt_succ_self _) _).setCell (p := ⟨ob, 1, none⟩) (Nat.le_refl _) (Nat.lt_succ_self _) _).setCell (p := ⟨ob, 2, none⟩) (Nat.le_refl _) (Nat.lt_succ_self _) _).setCell (p := ⟨ob, 3, none⟩) (Nat.le_refl _) (Nat.lt_succ_self _) _).setCell (p := ⟨ob, 4, none⟩) (Nat.le_refl _) (Nat.lt_succ_self _) _).setCell (p := ⟨ob, 5, none⟩) (Nat.le_refl _) (Nat.lt_succ_self _) _).setCell (p := ⟨ob, 6, none⟩) (Nat.le_refl _) (Nat.lt_succ_self _) _).setCell (p := ⟨ob, 7, none⟩) (Nat.le_refl _) (Nat.lt_succ_self _) _).setCell (p := ⟨ob, 8, none⟩) (Nat.le_refl _) (Nat.lt_succ_self _) _).setCell (p := ⟨ob, 9, none⟩) (Nat.le_refl _) (Nat.lt_succ_self _) _)⟩


end Go.Proofs.Ytmbllmhpnopbdaa
