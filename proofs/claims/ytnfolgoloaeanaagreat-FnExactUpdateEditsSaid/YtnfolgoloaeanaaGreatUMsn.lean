/-
  The model's l6Seen.
-/
import Derived.Test.YtnfolgoloaeanaaGreatUMst
import Derived.Test.YtnfolgoloaeanaaGreatUKvs

namespace Go.Proofs.YtnfolgoloaeanaaGreat
open Go.RowKit Go.Maps
set_option linter.unusedVariables false

/-- What is seen of a cell, as the model has it. -/
def sn1 (f : Int → Int → Option Value) (x : Spt) : List Spt :=
  if x.c.f = 2 then [] else if x.c.f = 1 then [⟨x.p, x.s, ⟨x.c.q, x.c.f, x.c.p, x.c.l, (rwOf (f x.c.p x.c.l)).t, (rwOf (f x.c.p x.c.l)).k, (rwOf (f x.c.p x.c.l)).v, (rwOf (f x.c.p x.c.l)).s⟩⟩] else [x]
def snF (f : Int → Int → Option Value) (xs : List Spt) : List Spt := xs.flatMap (sn1 f)
theorem snF_snoc (f : Int → Int → Option Value) (xs : List Spt) (x : Spt) : snF f (xs ++ [x]) = snF f xs ++ sn1 f x := by simp [snF]
theorem snF_len (f : Int → Int → Option Value) (xs : List Spt) : (snF f xs).length ≤ xs.length := by
  induction xs with
  | nil => simp [snF]
  | cons x xs ih =>
    have : (sn1 f x).length ≤ 1 := by unfold sn1; split <;> (try split) <;> simp
    simp only [snF, List.flatMap_cons, List.length_append, List.length_cons] at ih ⊢
    omega
def toPl (x : Spt) : Plc := ⟨0, x.p, x.s, ⟨x.c.t, x.c.k, x.c.v, x.c.s⟩⟩
/-- Both tell the same. -/
theorem snF_pl {f : Int → Int → Option Value} {xs : List Spt} (hk : ∀ x ∈ xs, SpOk x) : (snF f xs).map toPl = plF f xs := by
  induction xs with
  | nil => rfl
  | cons x xs ih =>
    have ih := ih (fun y hy => hk y (by simp [hy]))
    simp only [snF, plF, List.flatMap_cons, List.map_append] at ih ⊢
    rw [ih]
    congr 1
    unfold sn1 see1
    rcases (hk x (by simp)).f with h | h | h <;> simp [h, toPl]

theorem Rs.grown {α : Type} {enc : α → List Value} {k : Nat} {w w' : World} {a : Option Addr} {xs : List α} (h : Rs enc k w a xs) {row : Option Nat} (hg : w.grownBy w' row) (hne : ∀ r, row = some r → ∀ b o, a = some ⟨b, o, none⟩ → b ≠ r) : Rs enc k w' a xs := by
  rcases h with h | ⟨b, off, ha, hc⟩
  · exact .inl h
  · refine .inr ⟨b, off, ha, fun i x hx j u hu => ?_⟩
    have h0 := hc i x hx j u hu
    rw [World.cell?_of_block (w := w) (hg.block b (World.block_lt_of_cell? w _ h0) (fun e => hne b e.symm b off ha rfl))]; exact h0

theorem Rs.turnedB {α : Type} {enc : α → List Value} {k : Nat} {w w' : World} {a : Option Addr} {xs : List α} (h : Rs enc k w a xs) {cb : Nat} (ht : Turned cb (cb + 1) w w') (hne : ∀ b o, a = some ⟨b, o, none⟩ → b ≠ cb) : Rs enc k w' a xs := by
  rcases h with h | ⟨b, off, ha, hc⟩
  · exact .inl h
  · refine .inr ⟨b, off, ha, fun i x hx j u hu => ht.cell (hc i x hx j u hu) ?_⟩
    have := hne b off ha
    simp only
    omega
theorem ownsRow_turned {w w' : World} {base e size n : Nat} {v : Value} {xs : List Value} (h : w.ownsRow base e size v n xs) {cb : Nat} (ht : Turned cb (cb + 1) w w') (hne : ∀ k, v.ownBlock = some k → k ≠ cb) : w'.ownsRow base e size v n xs := by
  obtain ⟨hl, h1 | ⟨g, cap, cur, rfl, hbb, hc, r⟩⟩ := h
  · exact ⟨hl, .inl h1⟩
  · have := hne g (by simp [Value.ownBlock])
    exact ⟨hl, .inr ⟨g, cap, cur, rfl, hbb, (ht.block g (Array.getElem?_eq_some_iff.1 hc).1 (by omega)).trans hc, r⟩⟩

set_option maxRecDepth 20000 in
set_option maxHeartbeats 8000000 in
theorem l6Seen_any (pa : Option Addr) (ps : List (List Int)) (pn pc : Nat) (w : World)
    (hpn : ps.length = pn) (hpm : pn ≤ 12) (hpo : PgOk ps) (hpr : PgRead w pa ps) (hq : pagesQ ps = 0) (hno : noneB (mvF (spotsOf 0 ps)) (spotsOf 0 ps) = false) :
    Calls Tryz.prog 109 #[.slice pa pn pc] w fun e w' => ∃ v, e = .returned v ∧ Below w.heap.size w w' ∧ w'.ownsRow w.heap.size 95 10 v (snF (mvF (spotsOf 0 ps)) (spotsOf 0 ps)).length (flat spE (snF (mvF (spotsOf 0 ps)) (spotsOf 0 ps))) := by
  have hsl := spotsOf_len ps 0 hpo
  have HK : Hid (∀ x ∈ spotsOf 0 ps, SpOk x) := spotsOf_ok ps 0 (by omega) hpo
  have HSp : Hid (∀ W, Below w.heap.size w W → Calls Tryz.prog 108 #[.slice pa pn pc] W fun e w' => ∃ v, e = .returned v ∧ Below W.heap.size W w' ∧ w'.ownsRow W.heap.size 95 10 v (spotsOf 0 ps).length (flat spE (spotsOf 0 ps))) := fun W hW => l6Spots_any pa ps pn pc W hpn hpm hpo (hpr.below hW (Nat.le_refl _)) hq
  obtain ⟨f, hf⟩ : ∃ f, f = mvF (spotsOf 0 ps) := ⟨_, rfl⟩
  have HFv : Hid (∀ p s, f p s = (match lkC ps p s with | some c => if c.f = 2 then some (.agg #[.int .i64 c.t, .int .i64 c.k, .int .i64 c.v, .string c.s]) else none | none => none)) := by rw [hf]; exact lkC_mv hpo hq
  have HCe0 : Hid (∀ p s, small p → small s → ∀ W, Below w.heap.size w W → Calls Tryz.prog 162 #[.slice pa pn pc, .int .i64 p, .int .i64 s] W fun e w' => e = .returned (.tuple #[celV ((lkC ps p s).getD zC), .bool (lkC ps p s).isSome]) ∧ Below W.heap.size W w') := fun p s h1 h2 W hW => l6Cell_any pa ps pn pc p s W hpn hpm hpo (hpr.below hW (Nat.le_refl _)) hq h1 h2
  rw [← hf] at hno ⊢
  clear hf hpr hq
  obtain ⟨xs, hxs⟩ : ∃ xs, xs = spotsOf 0 ps := ⟨_, rfl⟩
  rw [← hxs] at hno hsl HK HSp ⊢
  clear hxs hpo
  have HNo : Hid (∀ x ∈ xs, x.c.f = 1 → f x.c.p x.c.l ≠ none) := by
    intro x hx h1 h2
    unfold noneB at hno
    rw [List.any_eq_false] at hno
    exact hno x hx (by simp [h1, h2])
  obtain ⟨n, hn⟩ : ∃ n, n = xs.length := ⟨_, rfl⟩
  have HN : Hid (xs.length = n) := hn.symm
  rw [← hn] at hsl HSp
  clear hno hn
  go_enter Tryz.func109, Tryz.ntmps109
  go_wp2_with fail
  have hO := ownsRow_lit0 w 95 10
  have gO : Below w.heap.size w (w.alloc (.cells #[] 95)) := by go_grown
  generalize hY0 : World.alloc _ _ = Y0
  rw [hY0] at hO gO
  clear hY0
  obtain ⟨v0, hv0⟩ : ∃ v0, v0 = Value.slice (some ⟨w.heap.size, 0, none⟩) 0 0 := ⟨_, rfl⟩
  rw [← hv0] at hO ⊢
  clear hv0
  refine (HSp.out _ gO).mono ?_
  rintro e w1 ⟨v1, rfl, g1, o1⟩
  have hvb : ∀ k, v0.ownBlock = some k → ∀ r, v1.ownBlock = some r → r ≠ k := fun k hk r hr => by have h1 := (hO.lt k hk).2; have h2 := (o1.lt r hr).1; omega
  have hO := ownsRow_below hO g1
  have g := gO.trans (g1.mono gO.size)
  rw [← HN.out] at o1
  obtain ⟨a1, c1, rfl, _, s1, _⟩ := SlIn.ofRow spE_len o1
  have hr := s1.reads
  rw [HN.out]
  clear s1 o1 g1 gO
  go_wp2_with fail
  have HR : Hid (Rs spE 10 w1 a1 xs) := hr
  clear hr
  go_loopw [5, 3] (fun i v wr => ∃ j : Nat, j ≤ n ∧ i = .int .i64 j ∧ Below w.heap.size w wr ∧ Rs spE 10 wr a1 xs ∧ wr.ownsRow w.heap.size 95 10 v (snF f (xs.take j)).length (flat spE (snF f (xs.take j))) ∧ (∀ k, v.ownBlock = some k → ∀ b o, a1 = some ⟨b, o, none⟩ → b ≠ k)) (fun i _ _ => n - (intOf i).toNat)
  case atStart => exact ⟨0, Nat.zero_le _, rfl, g, HR.out, hO, fun k hk b o e => hvb k hk b (by rw [e]; rfl)⟩
  case round =>
    clear hO g hvb HR
    obtain ⟨j, hj, rfl, g, hr, ho, hne⟩ := hrel
    by_cases hlt : j < n
    · obtain ⟨x, hx⟩ := at_lt' (rs := xs) (i := j) (by rw [HN.out]; exact hlt)
      obtain ⟨b, off, rfl, X⟩ := hr.spot hx
      have hb0 : b < wr.heap.size := X.lt
      have hxm := List.mem_of_getElem? hx
      have hok := HK.out x hxm
      have hjn : (j : Int) < (n : Int) := by omega
      have HT : Hid (snF f (xs.take (j + 1)) = snF f (xs.take j) ++ sn1 f x) := by show _ = _; rw [take_snoc hx, snF_snoc]
      have hlen : (snF f (xs.take j)).length + 1 ≤ 100000000 := by have := snF_len f (xs.take j); rw [List.length_take] at this; omega
      have hnn := HNo.out x hxm
      clear hx hxm
      obtain ⟨xp, xs', xq, xf, xcp, xcl, xct, xck, xcv, xcs⟩ := x
      obtain ⟨x0, x1, x2, x3, x4, x5, x6, x7, x8, x9⟩ := X
      obtain ⟨o1, o2, o3, o4, o5, o6, o7, o8, o9⟩ := hok
      dsimp only at x0 x1 x2 x3 x4 x5 x6 x7 x8 x9 o1 o2 o3 o4 o5 o6 o7 o8 o9 hnn
      subst o7
      have hgs := g.size
      generalize snF f (xs.take j) = ys at ho HT hlen
      go_upto_region 7 with (fail)
      generalize hY : World.alloc _ _ = Y
      have gY : Below wr.heap.size wr Y := by rw [← hY]; go_grown
      have C : SpC Y wr.heap.size 0 ⟨xp, xs', ⟨0, xf, xcp, xcl, xct, xck, xcv, xcs⟩⟩ := by rw [← hY]; exact ⟨by simp [go_sem], by simp [go_sem], by simp [go_sem], by simp [go_sem], by simp [go_sem], by simp [go_sem], by simp [go_sem], by simp [go_sem], by simp [go_sem], by simp [go_sem]⟩
      have Fz : ∀ o, Y.frozen? ⟨wr.heap.size, o, none⟩ = false := fun o => by rw [← hY]; simp [go_sem]
      have hcb : ∀ k, u3.ownBlock = some k → k ≠ wr.heap.size := fun k hk => by have := (ho.lt k hk).2; omega
      have hcw : w.heap.size ≤ wr.heap.size := hgs
      have ho := ownsRow_below ho gY
      have hr := hr.below gY (Nat.le_refl _)
      have g := g.trans (gY.mono g.size)
      clear hY gY x0 x1 x2 x3 x4 x5 x6 x7 x8 x9
      have hbc := hb0
      have hb0 : b < Y.heap.size := Nat.lt_of_lt_of_le hb0 (Nat.le_of_lt C.lt)
      generalize wr.heap.size = cb at C hcb Fz hcw hbc ⊢
      have C0 := C
      obtain ⟨y0, y1, y2, y3, y4, y5, y6, y7, y8, y9⟩ := C
      dsimp only at y0 y1 y2 y3 y4 y5 y6 y7 y8 y9
      rcases o8 with rfl | rfl | rfl
      · have HT2 : Hid (snF f (xs.take (j + 1)) = ys ++ [(⟨xp, xs', ⟨0, 0, xcp, xcl, xct, xck, xcv, xcs⟩⟩ : Spt)]) := by rw [HT.out]; rfl
        have hgs2 := g.size
        go_wp2_with (at_builtin; refine wpList_append_sl elS _ rfl _ _ rfl w.heap.size _ ys [(⟨xp, xs', ⟨0, 0, xcp, xcl, xct, xck, xcv, xcs⟩⟩ : Spt)] (some ⟨Y.heap.size, 0, none⟩) 1 1 rfl rfl rfl (ownsRow_below ho (by go_grown)) (rs_one (enc := spE) Y (⟨xp, xs', ⟨0, 0, xcp, xcl, xct, xck, xcv, xcs⟩⟩ : Spt) 95) hlen (by simp; omega) ?_)
        intro v' w' ho' hg' hat
        have gA : Below Y.heap.size Y (Y.alloc (.cells (spE (⟨xp, xs', ⟨0, 0, xcp, xcl, xct, xck, xcv, xcs⟩⟩ : Spt)).toArray 95)) := (Below.refl _ _).alloc (Nat.le_refl _) _
        have hr2 := (hr.below gA (Nat.le_refl _)).grown hg' (fun r hr b o e => hne r hr b o e)
        have g2 : Below w.heap.size w w' := Below.grown (g.trans (gA.mono g.size)) hg' (by simp; omega) (fun k hk => (ho.lt k hk).1)
        have ho2 : w'.ownsRow w.heap.size 95 10 v' (snF f (xs.take (j + 1))).length (flat spE (snF f (xs.take (j + 1)))) := by rw [HT2.out, List.length_append]; exact ho'
        have hne2 : ∀ k, v'.ownBlock = some k → ∀ b' o, some (⟨b, off, none⟩ : Addr) = some ⟨b', o, none⟩ → b' ≠ k := fun k hk b' o e => by
          rcases hat with h | h
          · exact hne k (by rw [← h]; exact hk) b' o e
          · rw [h] at hk
            simp only [Option.some.injEq, Addr.mk.injEq, and_true] at e hk
            omega
        clear ho' hg' hat gA ho hr hne
        go_wp2_with fail
        go_roundw
        case rel => exact ⟨j + 1, by omega, by go_num, g2, hr2, ho2, hne2⟩
        case measure => simp [intOf]; omega
      · obtain ⟨cc, hlk, hc2, hfv⟩ : ∃ cc, lkC ps xcp xcl = some cc ∧ cc.f = 2 ∧ rwOf (f xcp xcl) = ⟨cc.t, cc.k, cc.v, cc.s⟩ := by
          have h1 := HFv.out xcp xcl
          have h2 := hnn rfl
          cases hlk : lkC ps xcp xcl with
          | none => rw [hlk] at h1; exact absurd h1 h2
          | some cc =>
            rw [hlk] at h1
            simp only at h1
            by_cases h3 : cc.f = 2
            · rw [if_pos h3] at h1; exact ⟨cc, rfl, h3, by rw [h1]; rfl⟩
            · rw [if_neg h3] at h1; exact absurd h1 h2
        have HCe := HCe0.out xcp xcl o3 o4
        rw [hlk] at HCe
        obtain ⟨kq, kf, kp, kl', kt, kk, kv', ks⟩ := cc
        have HCe : Hid (∀ W, Below w.heap.size w W → Calls Tryz.prog 162 #[.slice pa pn pc, .int .i64 xcp, .int .i64 xcl] W fun e w' => e = .returned (.tuple #[.agg #[.int .i64 kq, .int .i64 kf, .int .i64 kp, .int .i64 kl', .int .i64 kt, .int .i64 kk, .int .i64 kv', .string ks], .bool true]) ∧ Below W.heap.size W w') := HCe
        have HT2 : Hid (snF f (xs.take (j + 1)) = ys ++ [(⟨xp, xs', ⟨0, 1, xcp, xcl, kt, kk, kv', ks⟩⟩ : Spt)]) := by
          show _ = _
          rw [HT.out]
          simp [sn1, hfv]
        clear hlk hc2 hfv hnn
        go_wp2_with fail
        refine (HCe.out _ g).mono ?_
        rintro e w3 ⟨rfl, g3⟩
        have C3 := C0.below g3 C0.lt
        have Fz3 : ∀ o, w3.frozen? ⟨cb, o, none⟩ = false := fun o => (g3.frozen (p := ⟨cb, o, none⟩) C0.lt).trans (Fz o)
        have ho := ownsRow_below ho g3
        have hr := hr.below g3 (Nat.le_refl _)
        have hb0 := Nat.lt_of_lt_of_le hb0 g3.size
        have g := g.trans (g3.mono g.size)
        have hcl := C3.lt
        clear y0 y1 y2 y3 y4 y5 y6 y7 y8 y9 C0 Fz g3
        go_upto_region 10 with (fail)
        generalize hY3 : World.alloc _ _ = Y3
        have gY3 : Below w3.heap.size w3 Y3 := by rw [← hY3]; go_grown
        have K : CelAt Y3 w3.heap.size kq kf kp kl' kt kk kv' ks := by rw [← hY3]; exact ⟨by simp [go_sem], by simp [go_sem], by simp [go_sem], by simp [go_sem], by simp [go_sem], by simp [go_sem], by simp [go_sem], by simp [go_sem]⟩
        have C3 := C3.below gY3 hcl
        have ho := ownsRow_below ho gY3
        have hr := hr.below gY3 (Nat.le_refl _)
        have hb0 := Nat.lt_of_lt_of_le hb0 gY3.size
        have g := g.trans (gY3.mono g.size)
        have e6 := (gY3.frozen (p := ⟨cb, 6, none⟩) hcl).trans (Fz3 6)
        have e7 := (gY3.frozen (p := ⟨cb, 7, none⟩) hcl).trans (Fz3 7)
        have e8 := (gY3.frozen (p := ⟨cb, 8, none⟩) hcl).trans (Fz3 8)
        have e9 := (gY3.frozen (p := ⟨cb, 9, none⟩) hcl).trans (Fz3 9)
        have hcl3 := C3.lt
        have hab : w3.heap.size ≠ cb := by omega
        clear hY3 gY3 Fz3 hcl
        generalize w3.heap.size = kb at K hab ⊢
        obtain ⟨k0, k1, k2, k3, k4, k5, k6, k7⟩ := K
        obtain ⟨y0, y1, y2, y3, y4, y5, y6, y7, y8, y9⟩ := C3
        dsimp only at y0 y1 y2 y3 y4 y5 y6 y7 y8 y9
        have T : Turned cb (cb + 1) Y3 ((((Y3.setCell ⟨cb, 6, none⟩ (.int .i64 kt)).setCell ⟨cb, 7, none⟩ (.int .i64 kk)).setCell ⟨cb, 8, none⟩ (.int .i64 kv')).setCell ⟨cb, 9, none⟩ (.string ks)) := ((((Turned.refl cb (cb + 1) Y3).setCell (p := ⟨cb, 6, none⟩) (Nat.le_refl _) (Nat.lt_succ_self _) _).setCell (p := ⟨cb, 7, none⟩) (Nat.le_refl _) (Nat.lt_succ_self _) _).setCell (p := ⟨cb, 8, none⟩) (Nat.le_refl _) (Nat.lt_succ_self _) _).setCell (p := ⟨cb, 9, none⟩) (Nat.le_refl _) (Nat.lt_succ_self _) _
        have C4 : SpC ((((Y3.setCell ⟨cb, 6, none⟩ (.int .i64 kt)).setCell ⟨cb, 7, none⟩ (.int .i64 kk)).setCell ⟨cb, 8, none⟩ (.int .i64 kv')).setCell ⟨cb, 9, none⟩ (.string ks)) cb 0 (⟨xp, xs', ⟨0, 1, xcp, xcl, kt, kk, kv', ks⟩⟩ : Spt) := ⟨by simp [go_sem, y0], by simp [go_sem, y1], by simp [go_sem, y2], by simp [go_sem, y3], by simp [go_sem, y4], by simp [go_sem, y5], by simp [go_sem, y6], by simp [go_sem, y7], by simp [go_sem, y8], by simp [go_sem, y9]⟩
        have hr := hr.turnedB T (fun b' o e => by simp only [Option.some.injEq, Addr.mk.injEq, and_true] at e; omega)
        have ho := ownsRow_turned ho T (fun k hk => hcb k hk)
        have hsz4 : Y3.heap.size ≤ ((((Y3.setCell ⟨cb, 6, none⟩ (.int .i64 kt)).setCell ⟨cb, 7, none⟩ (.int .i64 kk)).setCell ⟨cb, 8, none⟩ (.int .i64 kv')).setCell ⟨cb, 9, none⟩ (.string ks)).heap.size := T.size
        have g : Below w.heap.size w ((((Y3.setCell ⟨cb, 6, none⟩ (.int .i64 kt)).setCell ⟨cb, 7, none⟩ (.int .i64 kk)).setCell ⟨cb, 8, none⟩ (.int .i64 kv')).setCell ⟨cb, 9, none⟩ (.string ks)) := g.trans ⟨T.os, T.tape, T.output, T.size, fun k hk => T.block k (Nat.lt_of_lt_of_le hk g.size) (by omega)⟩
        go_upto_region 11 with (fail)
        generalize ((((Y3.setCell ⟨cb, 6, none⟩ (.int .i64 kt)).setCell ⟨cb, 7, none⟩ (.int .i64 kk)).setCell ⟨cb, 8, none⟩ (.int .i64 kv')).setCell ⟨cb, 9, none⟩ (.string ks)) = V4 at C4 hr ho g hsz4 ⊢
        have hb0 := Nat.lt_of_lt_of_le hb0 hsz4
        clear T y0 y1 y2 y3 y4 y5 y6 y7 y8 y9 k0 k1 k2 k3 k4 k5 k6 k7 e6 e7 e8 e9
        obtain ⟨y0, y1, y2, y3, y4, y5, y6, y7, y8, y9⟩ := C4
        dsimp only at y0 y1 y2 y3 y4 y5 y6 y7 y8 y9
        have hgs2 := g.size
        go_wp2_with (at_builtin; refine wpList_append_sl elS _ rfl _ _ rfl w.heap.size _ ys [(⟨xp, xs', ⟨0, 1, xcp, xcl, kt, kk, kv', ks⟩⟩ : Spt)] (some ⟨V4.heap.size, 0, none⟩) 1 1 rfl rfl rfl (ownsRow_below ho (by go_grown)) (rs_one (enc := spE) V4 (⟨xp, xs', ⟨0, 1, xcp, xcl, kt, kk, kv', ks⟩⟩ : Spt) 95) hlen (by simp; omega) ?_)
        intro v' w' ho' hg' hat
        have gA : Below V4.heap.size V4 (V4.alloc (.cells (spE (⟨xp, xs', ⟨0, 1, xcp, xcl, kt, kk, kv', ks⟩⟩ : Spt)).toArray 95)) := (Below.refl _ _).alloc (Nat.le_refl _) _
        have hr2 := (hr.below gA (Nat.le_refl _)).grown hg' (fun r hr b o e => hne r hr b o e)
        have g2 : Below w.heap.size w w' := Below.grown (g.trans (gA.mono g.size)) hg' (by simp; omega) (fun k hk => (ho.lt k hk).1)
        have ho2 : w'.ownsRow w.heap.size 95 10 v' (snF f (xs.take (j + 1))).length (flat spE (snF f (xs.take (j + 1)))) := by rw [HT2.out, List.length_append]; exact ho'
        have hne2 : ∀ k, v'.ownBlock = some k → ∀ b' o, some (⟨b, off, none⟩ : Addr) = some ⟨b', o, none⟩ → b' ≠ k := fun k hk b' o e => by
          rcases hat with h | h
          · exact hne k (by rw [← h]; exact hk) b' o e
          · rw [h] at hk
            simp only [Option.some.injEq, Addr.mk.injEq, and_true] at e hk
            omega
        clear ho' hg' hat gA ho hr hne
        go_wp2_with fail
        go_roundw
        case rel => exact ⟨j + 1, by omega, by go_num, g2, hr2, ho2, hne2⟩
        case measure => simp [intOf]; omega
      · have HT2 : Hid (snF f (xs.take (j + 1)) = ys) := by rw [HT.out]; show ys ++ [] = ys; simp
        rw [← HT2.out] at ho
        go_wp2_with fail
        go_roundw
        case rel => exact ⟨j + 1, by omega, by go_num, g, hr, ho, hne⟩
        case measure => simp [intOf]; omega
    · have e : j = n := by omega
      subst e
      rw [List.take_of_length_le (by rw [HN.out]; exact Nat.le_refl _)] at ho
      go_wp2_with fail
      go_ret
      exact ⟨_, rfl, g, ho⟩

open Go.RowKit Go.Maps

def plV (y : Plc) : Value := .agg #[.int .i64 y.q, .int .i64 y.p, .int .i64 y.s, .int .i64 y.r.t, .int .i64 y.r.k, .int .i64 y.r.v, .string y.r.s]
def plK (y : Plc) : (Int × Int) × Value := ((y.r.t, y.r.k), plV y)
/-- Seven cells of an answer. -/
structure PlC (w : World) (b o : Nat) (y : Plc) : Prop where
  c0 : w.cell? ⟨b, o, none⟩ = some (.int .i64 y.q)
  c1 : w.cell? ⟨b, o + 1, none⟩ = some (.int .i64 y.p)
  c2 : w.cell? ⟨b, o + 2, none⟩ = some (.int .i64 y.s)
  c3 : w.cell? ⟨b, o + 3, none⟩ = some (.int .i64 y.r.t)
  c4 : w.cell? ⟨b, o + 4, none⟩ = some (.int .i64 y.r.k)
  c5 : w.cell? ⟨b, o + 5, none⟩ = some (.int .i64 y.r.v)
  c6 : w.cell? ⟨b, o + 6, none⟩ = some (.string y.r.s)
theorem PlC.of {w : World} {b o : Nat} {x : Plc} (h : ∀ j u, (plE x)[j]? = some u → w.cell? ⟨b, o + j, none⟩ = some u) : PlC w b o x :=
  ⟨h 0 _ rfl, h 1 _ rfl, h 2 _ rfl, h 3 _ rfl, h 4 _ rfl, h 5 _ rfl, h 6 _ rfl⟩
theorem PlC.below {w w' : World} {b o : Nat} {x : Plc} (h : PlC w b o x) {B : Nat} (hb : Below B w w') (hB : b < B) : PlC w' b o x :=
  have up : ∀ (p : Nat) (v : Value), w.cell? ⟨b, p, none⟩ = some v → w'.cell? ⟨b, p, none⟩ = some v := fun p v h => (hb.cell (p := ⟨b, p, none⟩) hB).trans h
  ⟨up _ _ h.c0, up _ _ h.c1, up _ _ h.c2, up _ _ h.c3, up _ _ h.c4, up _ _ h.c5, up _ _ h.c6⟩
theorem PlC.lt {w : World} {b o : Nat} {x : Plc} (h : PlC w b o x) : b < w.heap.size := World.block_lt_of_cell? w _ h.c0
theorem PlC.turn {V W : World} {cb o : Nat} {x : Plc} (h : PlC V cb o x) {tb : Nat} (ht : V.mapTurned W tb) (h4 : cb ≠ tb) : PlC W cb o x := by
  have g := ht.grown
  have up : ∀ (p : Nat) (v : Value), V.cell? ⟨cb, p, none⟩ = some v → W.cell? ⟨cb, p, none⟩ = some v := fun p v h => by
    have hl := World.block_lt_of_cell? V _ h
    rw [World.cell?_of_block (w := V) (g.block cb hl (fun e => h4 (by injection e)))]; exact h
  exact ⟨up _ _ h.c0, up _ _ h.c1, up _ _ h.c2, up _ _ h.c3, up _ _ h.c4, up _ _ h.c5, up _ _ h.c6⟩
theorem Rs.plc {w : World} {a : Option Addr} {xs : List Plc} (h : Rs plE 7 w a xs) {i : Nat} {x : Plc} (hx : xs[i]? = some x) : ∃ b off, a = some ⟨b, off, none⟩ ∧ PlC w b (off + i * 7) x := by
  rcases h with h | ⟨b, off, ha, hc⟩
  · rw [h] at hx; simp at hx
  · exact ⟨b, off, ha, PlC.of (hc i x hx)⟩

theorem cell_turn {w w' : World} {tb : Nat} (ht : w.mapTurned w' tb) {p : Addr} {v : Value} (h : w.cell? p = some v) : w'.cell? p = some v := by
  have g := ht.grown
  obtain ⟨es, clock, es', clock', hb, rfl⟩ := ht
  have hne : p.block ≠ tb := by
    intro e
    unfold World.cell? at h
    rw [e, hb] at h
    simp at h
  rw [World.cell?_of_block (w := w) (g.block p.block (World.block_lt_of_cell? w _ h) (fun e => hne (by injection e)))]; exact h
theorem Rs.turn {α : Type} {enc : α → List Value} {k : Nat} {w w' : World} {a : Option Addr} {xs : List α} (h : Rs enc k w a xs) {tb : Nat} (ht : w.mapTurned w' tb) : Rs enc k w' a xs := by
  rcases h with h | ⟨b, off, ha, hc⟩
  · exact .inl h
  · exact .inr ⟨b, off, ha, fun i x hx j u hu => cell_turn ht (hc i x hx j u hu)⟩

/-- What is seen in pages. -/
def seenL (ps : List (List Int)) : List Plc := plF (mvF (allL ps)) (allL ps)
def seenKV (ps : List (List Int)) : List ((Int × Int) × Value) := (seenL ps).map plK
def stubQ (ps : List (List Int)) : Int := stQ (mvF (allL ps)) (allL ps)
/-- The code of pages. -/
def viewQ (ps : List (List Int)) : Int := if allQ ps = 0 then (if stubQ ps = 0 then (if ((seenKV ps).map (·.1)).Nodup then 0 else 8) else stubQ ps) else allQ ps

/-- What viewOf answers. -/
def ViPost (ps : List (List Int)) (w : World) (e : Ending) (w' : World) : Prop :=
  ∃ m, e = .returned (.tuple #[.map m, .int .i64 (viewQ ps)]) ∧ Below w.heap.size w w' ∧ (viewQ ps = 0 → ∃ b sz, m = some b ∧ MapK 105 w' b (seenKV ps) sz)

theorem stQ_zero {f : Int → Int → Option Value} {xs : List Spt} (h : stQ f xs = 0) : noneB f xs = false := by
  unfold stQ at h
  split at h
  · simp at h
  · rename_i h1; simpa using h1

set_option maxRecDepth 20000 in
set_option maxHeartbeats 4000000 in
theorem viewOf_any (a : Option Addr) (ps : List (List Int)) (n c : Nat) (w : World) (hn : ps.length = n) (hm : n ≤ 9223372036854775807) (hp : PgOk ps) (hr : PgRead w a ps) :
    Calls Tryz.prog 61 #[.slice a n c] w fun e w' => ViPost ps w e w' := by
  have hmm := @run_makeMap Tryz.prog
  obtain ⟨hok, hl200⟩ := allL_ok hp
  go_enter Tryz.func61, Tryz.ntmps61
  go_wp2_with fail
  refine (allCells_any a ps n c _ hn hm hp hr).mono ?_
  rintro e w1 ⟨v1, rfl, g1, o1⟩
  clear hr
  obtain ⟨q1, hq1⟩ : ∃ q, q = allQ ps := ⟨_, rfl⟩
  have HQ1 : Hid (allQ ps = q1) := hq1.symm
  rw [← hq1]
  clear hq1
  by_cases hq0 : q1 = 0
  · subst hq0
    obtain ⟨xs, hxs⟩ : ∃ xs, xs = allL ps := ⟨_, rfl⟩
    have HX : Hid (allL ps = xs) := hxs.symm
    rw [← hxs] at o1 hok hl200
    clear hxs
    obtain ⟨a1, c1, rfl, _, s1, _⟩ := SlIn.ofRow spE_len o1
    have r1 := s1.reads
    clear s1 o1
    go_wp2_with fail
    refine (movedRows_any a1 xs xs.length c1 _ rfl (by omega) hok r1).mono ?_
    rintro e w2 ⟨rfl, g2, msz, _, m2⟩
    have r2 := r1.below g2 (Nat.le_refl _)
    have g := g1.trans (g2.mono g1.size)
    clear r1 g1 g2
    generalize w1.heap.size = mb at m2 ⊢
    go_wp2_with fail
    refine (stubsFault_any a1 xs xs.length c1 _ mb msz (mvF xs) rfl (by omega) hok r2 m2 (mvF_row xs)).mono ?_
    rintro e w3 ⟨rfl, g3⟩
    have r3 := r2.below g3 (Nat.le_refl _)
    have m3 := m2.below g3
    have g := g.trans (g3.mono g.size)
    clear r2 g3 m2
    obtain ⟨q2, hq2⟩ : ∃ q, q = stQ (mvF xs) xs := ⟨_, rfl⟩
    have HQ2 : Hid (stubQ ps = q2) := by show _ = _; unfold stubQ; rw [HX.out, ← hq2]
    rw [← hq2]
    by_cases hq3 : q2 = 0
    · have hno := stQ_zero (hq2.symm.trans hq3)
      clear hq2
      subst hq3
      go_wp2_with fail
      refine (seenRows_any a1 xs xs.length c1 _ mb msz (mvF xs) rfl (by omega) hok r3 m3 (mvF_row xs) hno).mono ?_
      rintro e w4 ⟨v4, rfl, g4, o4⟩
      have g := g.trans (g4.mono g.size)
      clear r3 m3 g4 hno
      have hpl := plF_ok hok
      have hln := plF_len (mvF xs) xs
      obtain ⟨ys, hys⟩ : ∃ ys, ys = plF (mvF xs) xs := ⟨_, rfl⟩
      rw [← hys] at o4 hpl hln
      have HY : Hid (seenL ps = ys) := by show _ = _; unfold seenL; rw [HX.out, ← hys]
      clear hys
      obtain ⟨a4, c4, rfl, _, s4, _⟩ := SlIn.ofRow plE_len o4
      have r4 := s4.reads
      clear s4 o4
      have HPl : Hid (∀ y ∈ ys, small y.r.t ∧ small y.r.k ∧ y.q = 0 ∧ y.r.s.size ≤ 64) := hpl
      have hk4 := MapK.made 105 w4
      have g5 : Below w4.heap.size w4 (w4.alloc (.map #[] 0)) := by go_grown
      have r5 := r4.below g5 (Nat.le_refl _)
      have hmb : w.heap.size ≤ w4.heap.size := g.size
      have g := g.trans (g5.mono g.size)
      clear r4 g5 hpl
      go_wp2_with fail
      clear hmm
      generalize hY0 : World.alloc _ _ = Y0
      rw [hY0] at hk4 r5 g
      clear hY0
      generalize w4.heap.size = vb at hk4 hmb ⊢
      obtain ⟨n4, hn4⟩ : ∃ n4, n4 = ys.length := ⟨_, rfl⟩
      have HN4 : Hid (ys.length = n4) := hn4.symm
      rw [← hn4] at hln ⊢
      clear hn4
      go_loopw [34] (fun i wr => ∃ (j sz : Nat), j ≤ n4 ∧ i = .int .i64 j ∧ Below w.heap.size w wr ∧ Rs plE 7 wr a4 ys ∧ MapK 105 wr vb ((ys.take j).map plK) sz) (fun i _ => n4 - (intOf i).toNat)
      case atStart => exact ⟨0, 0, Nat.zero_le _, rfl, g, r5, hk4⟩
      case round =>
        clear r5 hk4 g
        obtain ⟨j, sz, hj, rfl, g, hr, hK1⟩ := hrel
        by_cases hlt : j < n4
        · obtain ⟨y, hy⟩ := at_lt' (rs := ys) (i := j) (by rw [HN4.out]; exact hlt)
          obtain ⟨b, off, rfl, X⟩ := hr.plc hy
          have hjn : (j : Int) < (n4 : Int) := by omega
          have HT : Hid ((ys.take (j + 1)).map plK = (ys.take j).map plK ++ [plK y]) := by show _ = _; rw [take_snoc hy, List.map_append]; rfl
          have HL2 : Hid (((ys.take j).map plK).length = j) := by show _ = _; rw [List.length_map, List.length_take, HN4.out]; omega
          obtain ⟨o1, o2, o3, o4⟩ := HPl.out y (List.mem_of_getElem? hy)
          have hKw : Hid (Kw y.r.t y.r.k) := kw_small o1 o2
          clear hy o1 o2 o4
          obtain ⟨yq, yp, ys', yt, yk, yv, yst⟩ := y
          dsimp only at o3 hKw
          subst o3
          obtain ⟨x0, x1, x2, x3, x4, x5, x6⟩ := X
          dsimp only at x0 x1 x2 x3 x4 x5 x6
          have hgs := g.size
          have hcb : wr.heap.size ≠ vb := by have := hK1.1.lt; omega
          go_upto_region 12 with (fail)
          generalize hY : World.alloc _ _ = Y
          have gY : Below wr.heap.size wr Y := by rw [← hY]; go_grown
          have C : PlC Y wr.heap.size 0 ⟨0, yp, ys', ⟨yt, yk, yv, yst⟩⟩ := by rw [← hY]; exact ⟨by simp [go_sem], by simp [go_sem], by simp [go_sem], by simp [go_sem], by simp [go_sem], by simp [go_sem], by simp [go_sem]⟩
          have hK1 := hK1.below gY
          have hr := hr.below gY (Nat.le_refl _)
          have g := g.trans (gY.mono g.size)
          clear hY gY x0 x1 x2 x3 x4 x5 x6
          generalize wr.heap.size = cb at C hcb ⊢
          refine wp_region_held_drew (S := fun V => PlC V cb 0 ⟨0, yp, ys', ⟨yt, yk, yv, yst⟩⟩ ∧ Below w.heap.size w V) (by kernel_rfl) ⟨C.below (Below.refl _ _).drew C.lt, g.drew⟩ (fun hHeld => ?_)
          have hK1 := hK1.below (Below.refl _ _).drew
          have hr := hr.below (Below.refl _ _).drew (Nat.le_refl _)
          generalize Y.drew = D at hHeld hK1 hr ⊢
          clear C g
          refine tkH (i := 0) (v := ?v1) rfl (Or.inl ⟨by kernel_rfl, ?h1⟩) hHeld ?_
          case h1 => intro u hSw; (try dsimp only at hSw); go_simp; try with_reducible rfl
          try simp only [Act.put, tdy]
          refine tkH (i := 1) (v := ?v2) rfl (Or.inl ⟨by kernel_rfl, ?h2⟩) hHeld ?_
          case h2 => intro u hSw; (try dsimp only at hSw); go_simp; try with_reducible rfl
          try simp only [Act.put, tdy]
          refine tkH (i := 2) (v := ?v3) rfl (Or.inl ⟨by kernel_rfl, ?h3⟩) hHeld ?_
          case h3 => intro u hSw; obtain ⟨q0, q1, q2, q3, q4, q5, q6⟩ := hSw.1; dsimp only at q0 q1 q2 q3 q4 q5 q6; clear hSw; go_simp; try with_reducible rfl
          try simp only [Act.put, tdy]
          refine tkH (i := 4) (v := ?v4) rfl (Or.inl ⟨by kernel_rfl, ?h4⟩) hHeld ?_
          case h4 => intro u hSw; obtain ⟨q0, q1, q2, q3, q4, q5, q6⟩ := hSw.1; dsimp only at q0 q1 q2 q3 q4 q5 q6; clear hSw; go_simp; try with_reducible rfl
          try simp only [Act.put, tdy]
          refine wpAnyH_ready (rs := [3]) (by kernel_rfl) (by simp) ?_
          refine AllReadyH.cons rfl (fun K hK => ?_) AllReadyH.nil
          go_simp
          go_wp2_with (go_at_call 119; refine (keyOf_any _ _ _ _ _).mono ?_; rintro e W3 ⟨rfl, gg⟩)
          refine hK.out _ _ (⟨hHeld.1.below gg hHeld.1.lt, hHeld.2.trans (gg.mono hHeld.2.size)⟩) (fun hHeld => ?_)
          clear hK K
          have hK1 := hK1.below gg
          have hr := hr.below gg (Nat.le_refl _)
          clear gg
          try simp only [Act.put, tdy]
          obtain ⟨W4, e4, m4, t4⟩ := hK1.1.store keyT73 Tryz.underlying99 hKw.out (.agg #[.int .i64 0, .int .i64 yp, .int .i64 ys', .int .i64 yt, .int .i64 yk, .int .i64 yv, .string yst]) (by have := hK1.2.1; rw [HL2.out] at this; omega)
          simp only [kv] at e4
          have hK2 := hK1.add m4
          have hlt1 := hK1.1.lt
          have gT := turned_below t4 hmb hlt1
          have hcb4 := hcb
          refine wpAnyH_ready (rs := [5]) (by kernel_rfl) (by simp) ?_
          refine AllReadyH.cons rfl (fun K hK => ?_) AllReadyH.nil
          go_simp
          refine hK.out _ _ ⟨hHeld.1.turn t4 hcb, hHeld.2.trans gT⟩ (fun hHeld => ?_)
          clear hK K e4
          try simp only [Act.put, tdy]
          refine wpAnyH_done (by kernel_rfl) ?_ _
          have g2 := hHeld.2
          have hr2 := hr.turn t4
          have hK2 : MapK 105 W4 vb ((ys.take (j + 1)).map plK) (nSz (kvF ((ys.take j).map plK) yt yk) sz) := by rw [HT.out]; exact hK2
          clear hHeld
          go_wp2_with fail
          go_roundw
          case rel => exact ⟨j + 1, _, by omega, by go_num, g2, hr2, hK2⟩
          case measure => simp [intOf]; omega
        · have e : j = n4 := by omega
          subst e
          rw [List.take_of_length_le (by rw [HN4.out]; exact Nat.le_refl _)] at hK1
          have HKV : Hid (seenKV ps = ys.map plK) := by show _ = _; unfold seenKV; rw [HY.out]
          have hln4 := hK1.1.len Tryz.underlying99 3
          have hle := hK1.2.1
          have hiff := hK1.2.2
          rw [List.length_map, HN4.out] at hle hiff
          have HI : Hid (sz = j ↔ ((ys.map plK).map (·.1)).Nodup) := hiff
          clear hiff
          by_cases hd : sz = j
          · have HQ : Hid (viewQ ps = 0) := by show _ = _; unfold viewQ; rw [if_pos HQ1.out, if_pos HQ2.out, HKV.out, if_pos (HI.out.1 hd)]
            have d : decide ((sz : Int) < (j : Int)) = false := by simp; omega
            go_wp2_with fail
            go_ret2
            exact ⟨some vb, by rw [HQ.out]; rfl, g, fun _ => ⟨vb, sz, rfl, by rw [HKV.out]; exact hK1⟩⟩
          · have HQ : Hid (viewQ ps = 8) := by show _ = _; unfold viewQ; rw [if_pos HQ1.out, if_pos HQ2.out, HKV.out, if_neg (fun h => hd (HI.out.2 h))]
            have d : (sz : Int) < (j : Int) := by omega
            go_wp2_with fail
            go_ret2
            exact ⟨none, by rw [HQ.out]; rfl, g, fun h => by rw [HQ.out] at h; simp at h⟩
    · have HQ : Hid (viewQ ps = q2) := by show _ = _; unfold viewQ; rw [if_pos HQ1.out, if_neg (by rw [HQ2.out]; exact hq3), HQ2.out]
      have d : (q2 != 0) = true := by simpa using hq3
      clear hq2
      go_wp2_with fail
      go_ret2
      exact ⟨none, by rw [HQ.out]; rfl, g, fun h => by rw [HQ.out] at h; exact absurd h hq3⟩
  · have HQ : Hid (viewQ ps = q1) := by show _ = _; unfold viewQ; rw [if_neg (by rw [HQ1.out]; exact hq0), HQ1.out]
    have d : (q1 != 0) = true := by simpa using hq0
    go_wp2_with fail
    go_ret2
    exact ⟨none, by rw [HQ.out]; rfl, g1, fun h => by rw [HQ.out] at h; exact absurd h hq0⟩

set_option maxHeartbeats 1000000 in
theorem implPagesFault_any (a : Option Addr) (ps : List (List Int)) (n c : Nat) (w : World) (hn : ps.length = n) (hm : n ≤ 9223372036854775807) (hp : PgOk ps) (hr : PgRead w a ps) :
    Calls Tryz.prog 50 #[.slice a n c] w fun e w' => e = .returned (.int .i64 (viewQ ps)) ∧ Below w.heap.size w w' := by
  go_enter Tryz.func50, Tryz.ntmps50
  go_wp2_with fail
  refine (viewOf_any a ps n c _ hn hm hp hr).mono ?_
  rintro e w1 ⟨m, rfl, g, _⟩
  go_wp2_with fail
  go_ret
  exact ⟨rfl, g⟩

end Go.Proofs.YtnfolgoloaeanaaGreat

