/-
  The model's l6Seen.
-/
import Derived.Test.YteebbaleejbodaaARMst

namespace Go.Proofs.Yteebbaleejbodaa
open Go.RowKit Go.Maps
set_option linter.unusedVariables false

/-- What is seen of a cell, as the model has it. -/
def sn1 (f : Int → Int → Option Value) (x : Spt) : List Spt :=
  if x.c.f = 2 then [] else if x.c.f = 1 then [⟨x.p, x.s, ⟨x.c.q, x.c.f, x.c.p, x.c.l, (rwOf (f x.c.p x.c.l)).t, (rwOf (f x.c.p x.c.l)).k, (rwOf (f x.c.p x.c.l)).v, (rwOf (f x.c.p x.c.l)).s⟩⟩] else [x]
def snF (f : Int → Int → Option Value) (xs : List Spt) : List Spt := xs.flatMap (sn1 f)
theorem snF_snoc (f : Int → Int → Option Value) (xs : List Spt) (x : Spt) : snF f (xs ++ [x]) = snF f xs ++ sn1 f x := by simp [snF]
theorem snF_len (f : Int → Int → Option Value) (xs : List Spt) : (snF f xs).length ≤ xs.length := by
  induction xs with
  | nil => simp [snF]
  | cons x xs ih =>
    have : (sn1 f x).length ≤ 1 := by unfold sn1; split <;> (try split) <;> simp
    simp only [snF, List.flatMap_cons, List.length_append, List.length_cons] at ih ⊢
    omega
def toPl (x : Spt) : Plc := ⟨0, x.p, x.s, ⟨x.c.t, x.c.k, x.c.v, x.c.s⟩⟩
/-- Both tell the same. -/
theorem snF_pl {f : Int → Int → Option Value} {xs : List Spt} (hk : ∀ x ∈ xs, SpOk x) : (snF f xs).map toPl = plF f xs := by
  induction xs with
  | nil => rfl
  | cons x xs ih =>
    have ih := ih (fun y hy => hk y (by simp [hy]))
    simp only [snF, plF, List.flatMap_cons, List.map_append] at ih ⊢
    rw [ih]
    congr 1
    unfold sn1 see1
    rcases (hk x (by simp)).f with h | h | h <;> simp [h, toPl]

theorem Rs.grown {α : Type} {enc : α → List Value} {k : Nat} {w w' : World} {a : Option Addr} {xs : List α} (h : Rs enc k w a xs) {row : Option Nat} (hg : w.grownBy w' row) (hne : ∀ r, row = some r → ∀ b o, a = some ⟨b, o, none⟩ → b ≠ r) : Rs enc k w' a xs := by
  rcases h with h | ⟨b, off, ha, hc⟩
  · exact .inl h
  · refine .inr ⟨b, off, ha, fun i x hx j u hu => ?_⟩
    have h0 := hc i x hx j u hu
    rw [World.cell?_of_block (w := w) (hg.block b (World.block_lt_of_cell? w _ h0) (fun e => hne b e.symm b off ha rfl))]; exact h0

theorem Rs.turnedB {α : Type} {enc : α → List Value} {k : Nat} {w w' : World} {a : Option Addr} {xs : List α} (h : Rs enc k w a xs) {cb : Nat} (ht : Turned cb (cb + 1) w w') (hne : ∀ b o, a = some ⟨b, o, none⟩ → b ≠ cb) : Rs enc k w' a xs := by
  rcases h with h | ⟨b, off, ha, hc⟩
  · exact .inl h
  · refine .inr ⟨b, off, ha, fun i x hx j u hu => ht.cell (hc i x hx j u hu) ?_⟩
    have := hne b off ha
    simp only
    omega
theorem ownsRow_turned {w w' : World} {base e size n : Nat} {v : Value} {xs : List Value} (h : w.ownsRow base e size v n xs) {cb : Nat} (ht : Turned cb (cb + 1) w w') (hne : ∀ k, v.ownBlock = some k → k ≠ cb) : w'.ownsRow base e size v n xs := by
  obtain ⟨hl, h1 | ⟨g, cap, cur, rfl, hbb, hc, r⟩⟩ := h
  · exact ⟨hl, .inl h1⟩
  · have := hne g (by simp [Value.ownBlock])
    exact ⟨hl, .inr ⟨g, cap, cur, rfl, hbb, (ht.block g (Array.getElem?_eq_some_iff.1 hc).1 (by omega)).trans hc, r⟩⟩

set_option maxRecDepth 20000 in
set_option maxHeartbeats 8000000 in
theorem l6Seen_any (pa : Option Addr) (ps : List (List Int)) (pn pc : Nat) (w : World)
    (hpn : ps.length = pn) (hpm : pn ≤ 12) (hpo : PgOk ps) (hpr : PgRead w pa ps) (hq : pagesQ ps = 0) (hno : noneB (mvF (spotsOf 0 ps)) (spotsOf 0 ps) = false) :
    Calls Try.prog 121 #[.slice pa pn pc] w fun e w' => ∃ v, e = .returned v ∧ Below w.heap.size w w' ∧ w'.ownsRow w.heap.size 171 10 v (snF (mvF (spotsOf 0 ps)) (spotsOf 0 ps)).length (flat spE (snF (mvF (spotsOf 0 ps)) (spotsOf 0 ps))) := by
  have hsl := spotsOf_len ps 0 hpo
  have HK : Hid (∀ x ∈ spotsOf 0 ps, SpOk x) := spotsOf_ok ps 0 (by omega) hpo
  have HSp : Hid (∀ W, Below w.heap.size w W → Calls Try.prog 120 #[.slice pa pn pc] W fun e w' => ∃ v, e = .returned v ∧ Below W.heap.size W w' ∧ w'.ownsRow W.heap.size 171 10 v (spotsOf 0 ps).length (flat spE (spotsOf 0 ps))) := fun W hW => l6Spots_any pa ps pn pc W hpn hpm hpo (hpr.below hW (Nat.le_refl _)) hq
  obtain ⟨f, hf⟩ : ∃ f, f = mvF (spotsOf 0 ps) := ⟨_, rfl⟩
  have HFv : Hid (∀ p s, f p s = (match lkC ps p s with | some c => if c.f = 2 then some (.agg #[.int .i64 c.t, .int .i64 c.k, .int .i64 c.v, .string c.s]) else none | none => none)) := by rw [hf]; exact lkC_mv hpo hq
  have HCe0 : Hid (∀ p s, small p → small s → ∀ W, Below w.heap.size w W → Calls Try.prog 159 #[.slice pa pn pc, .int .i64 p, .int .i64 s] W fun e w' => e = .returned (.tuple #[celV ((lkC ps p s).getD zC), .bool (lkC ps p s).isSome]) ∧ Below W.heap.size W w') := fun p s h1 h2 W hW => l6Cell_any pa ps pn pc p s W hpn hpm hpo (hpr.below hW (Nat.le_refl _)) hq h1 h2
  rw [← hf] at hno ⊢
  clear hf hpr hq
  obtain ⟨xs, hxs⟩ : ∃ xs, xs = spotsOf 0 ps := ⟨_, rfl⟩
  rw [← hxs] at hno hsl HK HSp ⊢
  clear hxs hpo
  have HNo : Hid (∀ x ∈ xs, x.c.f = 1 → f x.c.p x.c.l ≠ none) := by
    intro x hx h1 h2
    unfold noneB at hno
    rw [List.any_eq_false] at hno
    exact hno x hx (by simp [h1, h2])
  obtain ⟨n, hn⟩ : ∃ n, n = xs.length := ⟨_, rfl⟩
  have HN : Hid (xs.length = n) := hn.symm
  rw [← hn] at hsl HSp
  clear hno hn
  go_enter Try.func121, Try.ntmps121
  go_wp2_with fail
  have hO := ownsRow_lit0 w 171 10
  have gO : Below w.heap.size w (w.alloc (.cells #[] 171)) := by go_grown
  generalize hY0 : World.alloc _ _ = Y0
  rw [hY0] at hO gO
  clear hY0
  obtain ⟨v0, hv0⟩ : ∃ v0, v0 = Value.slice (some ⟨w.heap.size, 0, none⟩) 0 0 := ⟨_, rfl⟩
  rw [← hv0] at hO ⊢
  clear hv0
  refine (HSp.out _ gO).mono ?_
  rintro e w1 ⟨v1, rfl, g1, o1⟩
  have hvb : ∀ k, v0.ownBlock = some k → ∀ r, v1.ownBlock = some r → r ≠ k := fun k hk r hr => by have h1 := (hO.lt k hk).2; have h2 := (o1.lt r hr).1; omega
  have hO := ownsRow_below hO g1
  have g := gO.trans (g1.mono gO.size)
  rw [← HN.out] at o1
  obtain ⟨a1, c1, rfl, _, s1, _⟩ := SlIn.ofRow spE_len o1
  have hr := s1.reads
  rw [HN.out]
  clear s1 o1 g1 gO
  go_wp2_with fail
  have HR : Hid (Rs spE 10 w1 a1 xs) := hr
  clear hr
  go_loopw [5, 3] (fun i v wr => ∃ j : Nat, j ≤ n ∧ i = .int .i64 j ∧ Below w.heap.size w wr ∧ Rs spE 10 wr a1 xs ∧ wr.ownsRow w.heap.size 171 10 v (snF f (xs.take j)).length (flat spE (snF f (xs.take j))) ∧ (∀ k, v.ownBlock = some k → ∀ b o, a1 = some ⟨b, o, none⟩ → b ≠ k)) (fun i _ _ => n - (intOf i).toNat)
  case atStart => exact ⟨0, Nat.zero_le _, rfl, g, HR.out, hO, fun k hk b o e => hvb k hk b (by rw [e]; rfl)⟩
  case round =>
    clear hO g hvb HR
    obtain ⟨j, hj, rfl, g, hr, ho, hne⟩ := hrel
    by_cases hlt : j < n
    · obtain ⟨x, hx⟩ := at_lt' (rs := xs) (i := j) (by rw [HN.out]; exact hlt)
      obtain ⟨b, off, rfl, X⟩ := hr.spot hx
      have hb0 : b < wr.heap.size := X.lt
      have hxm := List.mem_of_getElem? hx
      have hok := HK.out x hxm
      have hjn : (j : Int) < (n : Int) := by omega
      have HT : Hid (snF f (xs.take (j + 1)) = snF f (xs.take j) ++ sn1 f x) := by show _ = _; rw [take_snoc hx, snF_snoc]
      have hlen : (snF f (xs.take j)).length + 1 ≤ 100000000 := by have := snF_len f (xs.take j); rw [List.length_take] at this; omega
      have hnn := HNo.out x hxm
      clear hx hxm
      obtain ⟨xp, xs', xq, xf, xcp, xcl, xct, xck, xcv, xcs⟩ := x
      obtain ⟨x0, x1, x2, x3, x4, x5, x6, x7, x8, x9⟩ := X
      obtain ⟨o1, o2, o3, o4, o5, o6, o7, o8, o9⟩ := hok
      dsimp only at x0 x1 x2 x3 x4 x5 x6 x7 x8 x9 o1 o2 o3 o4 o5 o6 o7 o8 o9 hnn
      subst o7
      have hgs := g.size
      generalize snF f (xs.take j) = ys at ho HT hlen
      go_upto_region 7 with (fail)
      generalize hY : World.alloc _ _ = Y
      have gY : Below wr.heap.size wr Y := by rw [← hY]; go_grown
      have C : SpC Y wr.heap.size 0 ⟨xp, xs', ⟨0, xf, xcp, xcl, xct, xck, xcv, xcs⟩⟩ := by rw [← hY]; exact ⟨by simp [go_sem], by simp [go_sem], by simp [go_sem], by simp [go_sem], by simp [go_sem], by simp [go_sem], by simp [go_sem], by simp [go_sem], by simp [go_sem], by simp [go_sem]⟩
      have Fz : ∀ o, Y.frozen? ⟨wr.heap.size, o, none⟩ = false := fun o => by rw [← hY]; simp [go_sem]
      have hcb : ∀ k, u3.ownBlock = some k → k ≠ wr.heap.size := fun k hk => by have := (ho.lt k hk).2; omega
      have hcw : w.heap.size ≤ wr.heap.size := hgs
      have ho := ownsRow_below ho gY
      have hr := hr.below gY (Nat.le_refl _)
      have g := g.trans (gY.mono g.size)
      clear hY gY x0 x1 x2 x3 x4 x5 x6 x7 x8 x9
      have hbc := hb0
      have hb0 : b < Y.heap.size := Nat.lt_of_lt_of_le hb0 (Nat.le_of_lt C.lt)
      generalize wr.heap.size = cb at C hcb Fz hcw hbc ⊢
      have C0 := C
      obtain ⟨y0, y1, y2, y3, y4, y5, y6, y7, y8, y9⟩ := C
      dsimp only at y0 y1 y2 y3 y4 y5 y6 y7 y8 y9
      rcases o8 with rfl | rfl | rfl
      · have HT2 : Hid (snF f (xs.take (j + 1)) = ys ++ [(⟨xp, xs', ⟨0, 0, xcp, xcl, xct, xck, xcv, xcs⟩⟩ : Spt)]) := by rw [HT.out]; rfl
        have hgs2 := g.size
        go_wp2_with (at_builtin; refine wpList_append_sl elS _ rfl _ _ rfl w.heap.size _ ys [(⟨xp, xs', ⟨0, 0, xcp, xcl, xct, xck, xcv, xcs⟩⟩ : Spt)] (some ⟨Y.heap.size, 0, none⟩) 1 1 rfl rfl rfl (ownsRow_below ho (by go_grown)) (rs_one (enc := spE) Y (⟨xp, xs', ⟨0, 0, xcp, xcl, xct, xck, xcv, xcs⟩⟩ : Spt) 171) hlen (by simp; omega) ?_)
        intro v' w' ho' hg' hat
        have gA : Below Y.heap.size Y (Y.alloc (.cells (spE (⟨xp, xs', ⟨0, 0, xcp, xcl, xct, xck, xcv, xcs⟩⟩ : Spt)).toArray 171)) := (Below.refl _ _).alloc (Nat.le_refl _) _
        have hr2 := (hr.below gA (Nat.le_refl _)).grown hg' (fun r hr b o e => hne r hr b o e)
        have g2 : Below w.heap.size w w' := Below.grown (g.trans (gA.mono g.size)) hg' (by simp; omega) (fun k hk => (ho.lt k hk).1)
        have ho2 : w'.ownsRow w.heap.size 171 10 v' (snF f (xs.take (j + 1))).length (flat spE (snF f (xs.take (j + 1)))) := by rw [HT2.out, List.length_append]; exact ho'
        have hne2 : ∀ k, v'.ownBlock = some k → ∀ b' o, some (⟨b, off, none⟩ : Addr) = some ⟨b', o, none⟩ → b' ≠ k := fun k hk b' o e => by
          rcases hat with h | h
          · exact hne k (by rw [← h]; exact hk) b' o e
          · rw [h] at hk
            simp only [Option.some.injEq, Addr.mk.injEq, and_true] at e hk
            omega
        clear ho' hg' hat gA ho hr hne
        go_wp2_with fail
        go_roundw
        case rel => exact ⟨j + 1, by omega, by go_num, g2, hr2, ho2, hne2⟩
        case measure => simp [intOf]; omega
      · obtain ⟨cc, hlk, hc2, hfv⟩ : ∃ cc, lkC ps xcp xcl = some cc ∧ cc.f = 2 ∧ rwOf (f xcp xcl) = ⟨cc.t, cc.k, cc.v, cc.s⟩ := by
          have h1 := HFv.out xcp xcl
          have h2 := hnn rfl
          cases hlk : lkC ps xcp xcl with
          | none => rw [hlk] at h1; exact absurd h1 h2
          | some cc =>
            rw [hlk] at h1
            simp only at h1
            by_cases h3 : cc.f = 2
            · rw [if_pos h3] at h1; exact ⟨cc, rfl, h3, by rw [h1]; rfl⟩
            · rw [if_neg h3] at h1; exact absurd h1 h2
        have HCe := HCe0.out xcp xcl o3 o4
        rw [hlk] at HCe
        obtain ⟨kq, kf, kp, kl', kt, kk, kv', ks⟩ := cc
        have HCe : Hid (∀ W, Below w.heap.size w W → Calls Try.prog 159 #[.slice pa pn pc, .int .i64 xcp, .int .i64 xcl] W fun e w' => e = .returned (.tuple #[.agg #[.int .i64 kq, .int .i64 kf, .int .i64 kp, .int .i64 kl', .int .i64 kt, .int .i64 kk, .int .i64 kv', .string ks], .bool true]) ∧ Below W.heap.size W w') := HCe
        have HT2 : Hid (snF f (xs.take (j + 1)) = ys ++ [(⟨xp, xs', ⟨0, 1, xcp, xcl, kt, kk, kv', ks⟩⟩ : Spt)]) := by
          show _ = _
          rw [HT.out]
          simp [sn1, hfv]
        clear hlk hc2 hfv hnn
        go_wp2_with fail
        refine (HCe.out _ g).mono ?_
        rintro e w3 ⟨rfl, g3⟩
        have C3 := C0.below g3 C0.lt
        have Fz3 : ∀ o, w3.frozen? ⟨cb, o, none⟩ = false := fun o => (g3.frozen (p := ⟨cb, o, none⟩) C0.lt).trans (Fz o)
        have ho := ownsRow_below ho g3
        have hr := hr.below g3 (Nat.le_refl _)
        have hb0 := Nat.lt_of_lt_of_le hb0 g3.size
        have g := g.trans (g3.mono g.size)
        have hcl := C3.lt
        clear y0 y1 y2 y3 y4 y5 y6 y7 y8 y9 C0 Fz g3
        go_upto_region 10 with (fail)
        generalize hY3 : World.alloc _ _ = Y3
        have gY3 : Below w3.heap.size w3 Y3 := by rw [← hY3]; go_grown
        have K : CelAt Y3 w3.heap.size kq kf kp kl' kt kk kv' ks := by rw [← hY3]; exact ⟨by simp [go_sem], by simp [go_sem], by simp [go_sem], by simp [go_sem], by simp [go_sem], by simp [go_sem], by simp [go_sem], by simp [go_sem]⟩
        have C3 := C3.below gY3 hcl
        have ho := ownsRow_below ho gY3
        have hr := hr.below gY3 (Nat.le_refl _)
        have hb0 := Nat.lt_of_lt_of_le hb0 gY3.size
        have g := g.trans (gY3.mono g.size)
        have e6 := (gY3.frozen (p := ⟨cb, 6, none⟩) hcl).trans (Fz3 6)
        have e7 := (gY3.frozen (p := ⟨cb, 7, none⟩) hcl).trans (Fz3 7)
        have e8 := (gY3.frozen (p := ⟨cb, 8, none⟩) hcl).trans (Fz3 8)
        have e9 := (gY3.frozen (p := ⟨cb, 9, none⟩) hcl).trans (Fz3 9)
        have hcl3 := C3.lt
        have hab : w3.heap.size ≠ cb := by omega
        clear hY3 gY3 Fz3 hcl
        generalize w3.heap.size = kb at K hab ⊢
        obtain ⟨k0, k1, k2, k3, k4, k5, k6, k7⟩ := K
        obtain ⟨y0, y1, y2, y3, y4, y5, y6, y7, y8, y9⟩ := C3
        dsimp only at y0 y1 y2 y3 y4 y5 y6 y7 y8 y9
        have T : Turned cb (cb + 1) Y3 ((((Y3.setCell ⟨cb, 6, none⟩ (.int .i64 kt)).setCell ⟨cb, 7, none⟩ (.int .i64 kk)).setCell ⟨cb, 8, none⟩ (.int .i64 kv')).setCell ⟨cb, 9, none⟩ (.string ks)) := ((((Turned.refl cb (cb + 1) Y3).setCell (p := ⟨cb, 6, none⟩) (Nat.le_refl _) (Nat.lt_succ_self _) _).setCell (p := ⟨cb, 7, none⟩) (Nat.le_refl _) (Nat.lt_succ_self _) _).setCell (p := ⟨cb, 8, none⟩) (Nat.le_refl _) (Nat.lt_succ_self _) _).setCell (p := ⟨cb, 9, none⟩) (Nat.le_refl _) (Nat.lt_succ_self _) _
        have C4 : SpC ((((Y3.setCell ⟨cb, 6, none⟩ (.int .i64 kt)).setCell ⟨cb, 7, none⟩ (.int .i64 kk)).setCell ⟨cb, 8, none⟩ (.int .i64 kv')).setCell ⟨cb, 9, none⟩ (.string ks)) cb 0 (⟨xp, xs', ⟨0, 1, xcp, xcl, kt, kk, kv', ks⟩⟩ : Spt) := ⟨by simp [go_sem, y0], by simp [go_sem, y1], by simp [go_sem, y2], by simp [go_sem, y3], by simp [go_sem, y4], by simp [go_sem, y5], by simp [go_sem, y6], by simp [go_sem, y7], by simp [go_sem, y8], by simp [go_sem, y9]⟩
        have hr := hr.turnedB T (fun b' o e => by simp only [Option.some.injEq, Addr.mk.injEq, and_true] at e; omega)
        have ho := ownsRow_turned ho T (fun k hk => hcb k hk)
        have hsz4 : Y3.heap.size ≤ ((((Y3.setCell ⟨cb, 6, none⟩ (.int .i64 kt)).setCell ⟨cb, 7, none⟩ (.int .i64 kk)).setCell ⟨cb, 8, none⟩ (.int .i64 kv')).setCell ⟨cb, 9, none⟩ (.string ks)).heap.size := T.size
        have g : Below w.heap.size w ((((Y3.setCell ⟨cb, 6, none⟩ (.int .i64 kt)).setCell ⟨cb, 7, none⟩ (.int .i64 kk)).setCell ⟨cb, 8, none⟩ (.int .i64 kv')).setCell ⟨cb, 9, none⟩ (.string ks)) := g.trans ⟨T.os, T.tape, T.output, T.size, fun k hk => T.block k (Nat.lt_of_lt_of_le hk g.size) (by omega)⟩
        go_upto_region 11 with (fail)
        generalize ((((Y3.setCell ⟨cb, 6, none⟩ (.int .i64 kt)).setCell ⟨cb, 7, none⟩ (.int .i64 kk)).setCell ⟨cb, 8, none⟩ (.int .i64 kv')).setCell ⟨cb, 9, none⟩ (.string ks)) = V4 at C4 hr ho g hsz4 ⊢
        have hb0 := Nat.lt_of_lt_of_le hb0 hsz4
        clear T y0 y1 y2 y3 y4 y5 y6 y7 y8 y9 k0 k1 k2 k3 k4 k5 k6 k7 e6 e7 e8 e9
        obtain ⟨y0, y1, y2, y3, y4, y5, y6, y7, y8, y9⟩ := C4
        dsimp only at y0 y1 y2 y3 y4 y5 y6 y7 y8 y9
        have hgs2 := g.size
        go_wp2_with (at_builtin; refine wpList_append_sl elS _ rfl _ _ rfl w.heap.size _ ys [(⟨xp, xs', ⟨0, 1, xcp, xcl, kt, kk, kv', ks⟩⟩ : Spt)] (some ⟨V4.heap.size, 0, none⟩) 1 1 rfl rfl rfl (ownsRow_below ho (by go_grown)) (rs_one (enc := spE) V4 (⟨xp, xs', ⟨0, 1, xcp, xcl, kt, kk, kv', ks⟩⟩ : Spt) 171) hlen (by simp; omega) ?_)
        intro v' w' ho' hg' hat
        have gA : Below V4.heap.size V4 (V4.alloc (.cells (spE (⟨xp, xs', ⟨0, 1, xcp, xcl, kt, kk, kv', ks⟩⟩ : Spt)).toArray 171)) := (Below.refl _ _).alloc (Nat.le_refl _) _
        have hr2 := (hr.below gA (Nat.le_refl _)).grown hg' (fun r hr b o e => hne r hr b o e)
        have g2 : Below w.heap.size w w' := Below.grown (g.trans (gA.mono g.size)) hg' (by simp; omega) (fun k hk => (ho.lt k hk).1)
        have ho2 : w'.ownsRow w.heap.size 171 10 v' (snF f (xs.take (j + 1))).length (flat spE (snF f (xs.take (j + 1)))) := by rw [HT2.out, List.length_append]; exact ho'
        have hne2 : ∀ k, v'.ownBlock = some k → ∀ b' o, some (⟨b, off, none⟩ : Addr) = some ⟨b', o, none⟩ → b' ≠ k := fun k hk b' o e => by
          rcases hat with h | h
          · exact hne k (by rw [← h]; exact hk) b' o e
          · rw [h] at hk
            simp only [Option.some.injEq, Addr.mk.injEq, and_true] at e hk
            omega
        clear ho' hg' hat gA ho hr hne
        go_wp2_with fail
        go_roundw
        case rel => exact ⟨j + 1, by omega, by go_num, g2, hr2, ho2, hne2⟩
        case measure => simp [intOf]; omega
      · have HT2 : Hid (snF f (xs.take (j + 1)) = ys) := by rw [HT.out]; show ys ++ [] = ys; simp
        rw [← HT2.out] at ho
        go_wp2_with fail
        go_roundw
        case rel => exact ⟨j + 1, by omega, by go_num, g, hr, ho, hne⟩
        case measure => simp [intOf]; omega
    · have e : j = n := by omega
      subst e
      rw [List.take_of_length_le (by rw [HN.out]; exact Nat.le_refl _)] at ho
      go_wp2_with fail
      go_ret
      exact ⟨_, rfl, g, ho⟩

end Go.Proofs.Yteebbaleejbodaa
