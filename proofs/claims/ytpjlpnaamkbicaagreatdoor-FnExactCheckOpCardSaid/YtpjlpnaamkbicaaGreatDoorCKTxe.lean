/-
  What a transaction turned: its code, both sides.
-/
import Derived.Test.YtpjlpnaamkbicaaGreatDoorCKTxd

namespace Go.Proofs.YtpjlpnaamkbicaaGreatDoor
open Go.RowKit Go.Maps
set_option linter.unusedVariables false
set_option maxRecDepth 20000

/-- The first code of a list; the code of a change among locks. -/
def fstQ {α : Type} (f : α → Int) : List α → Int
  | [] => 0
  | x :: xs => if f x = 0 then fstQ f xs else f x
theorem fst_all {α : Type} {f : α → Int} : ∀ {xs : List α}, (∀ y ∈ xs, f y = 0) → fstQ f xs = 0
  | [], _ => rfl
  | c :: cs, h => by
    unfold fstQ
    rw [if_pos (h c (by simp))]
    exact fst_all (fun y hy => h y (by simp [hy]))
theorem fst_at {α : Type} {f : α → Int} : ∀ {xs : List α} {j : Nat} {x : α}, (∀ y ∈ xs.take j, f y = 0) → xs[j]? = some x → f x ≠ 0 → fstQ f xs = f x
  | [], j, x, _, hx, _ => by simp at hx
  | c :: cs, 0, x, _, hx, hq => by
    simp at hx
    subst hx
    unfold fstQ
    rw [if_neg hq]
  | c :: cs, j + 1, x, h, hx, hq => by
    unfold fstQ
    rw [if_pos (h c (by simp))]
    exact fst_at (j := j) (fun y hy => h y (by simp [hy])) (by simpa using hx) hq
def unQ (l : List K2) (c : Chg) : Int := if alQ c = 0 then (if hasK l ⟨kT c, kK c⟩ = true then 0 else 8) else alQ c

set_option maxHeartbeats 4000000 in
theorem l10Undo_any (tb to : Nat) (ua : Option Addr) (us : List Chg) (un uc : Nat) (la : Option Addr) (ls : List K2) (ln lc : Nat) (w : World) (hu : us.length = un) (hum : un ≤ 9223372036854775807) (hus : ∀ x ∈ us, x.b.s.size ≤ maxLen ∧ x.a.s.size ≤ maxLen) (ru : Rs chE 10 w ua us) (hl : ls.length = ln) (hlm : ln ≤ 9223372036854775807) (rl : Rs kyE 2 w la ls) (t1 : w.cell? ⟨tb, to + 1, none⟩ = some (.slice ua un uc)) (t3 : w.cell? ⟨tb, to + 3, none⟩ = some (.slice la ln lc)) :
    Calls Tryz.prog 41 #[.pointer (some ⟨tb, to, none⟩)] w fun e w' => e = .returned (.int .i64 (fstQ (unQ ls) us)) ∧ Below w.heap.size w w' := by
  have HN : Hid (us.length = un) := hu
  have HS : Hid (∀ x ∈ us, x.b.s.size ≤ maxLen ∧ x.a.s.size ≤ maxLen) := hus
  have HR : Hid (Rs chE 10 w ua us) := ru
  have lt := World.block_lt_of_cell? w _ t1
  have HT : Hid (∀ V, Below w.heap.size w V → V.cell? ⟨tb, to + 1, none⟩ = some (.slice ua un uc)) := fun V hV => (hV.cell (p := ⟨tb, to + 1, none⟩) lt).trans t1
  have HK : Hid (∀ (V : World) (x y : Int), Below w.heap.size w V → Calls Tryz.prog 75 #[.pointer (some ⟨tb, to, none⟩), .agg #[.int .i64 x, .int .i64 y]] V fun e w' => e = .returned (.bool (hasK ls ⟨x, y⟩)) ∧ Below V.heap.size V w') := fun V x y hV => l10Locks_any tb to la ls ln lc x y V hl hlm (rl.below hV (Nat.le_refl _)) ((hV.cell (p := ⟨tb, to + 3, none⟩) lt).trans t3)
  obtain ⟨Q, hQ⟩ : ∃ Q, fstQ (unQ ls) us = Q := ⟨_, rfl⟩
  have HQ : Hid (fstQ (unQ ls) us = Q) := hQ
  rw [hQ]
  clear hu hus ru hl rl t1 t3 lt hQ
  go_enter Tryz.func41, Tryz.ntmps41
  go_wp2_with fail
  go_loopw [3] (fun i wr => ∃ j : Nat, j ≤ un ∧ i = .int .i64 j ∧ Hid (∀ y ∈ us.take j, unQ ls y = 0) ∧ Below w.heap.size w wr) (fun i _ => un - (intOf i).toNat)
  case atStart => exact ⟨0, Nat.zero_le _, rfl, by intro y hy; simp at hy, Below.refl _ _⟩
  case round =>
    obtain ⟨j, hj, rfl, hA, g⟩ := hrel
    have c1 := HT.out wr g
    by_cases hlt : j < un
    · obtain ⟨x, hx⟩ : ∃ x, us[j]? = some x := ⟨_, List.getElem?_eq_getElem (by rw [HN.out]; exact hlt)⟩
      obtain ⟨b, off, rfl⟩ : ∃ b off, ua = some ⟨b, off, none⟩ := by
        obtain ⟨b, off, e, _⟩ := HR.out.chg hx
        exact ⟨b, off, e⟩
      have E : ChC wr b (off + j * 10) x := by
        have h1 := HR.out.chgAt hx
        exact h1.below g h1.lt
      have hjn : (j : Int) < (un : Int) := by omega
      have hxs := HS.out x (List.mem_of_getElem? hx)
      have hcon := l9Change_any b (off + j * 10) x wr E hxs.1 hxs.2
      have hky := fun W hW => l10KeyOf_any b (off + j * 10) x W (E.below (hW : Below wr.heap.size wr W) E.lt)
      have HAt : Hid (unQ ls x ≠ 0 → Q = unQ ls x) := fun h2 => by rw [← HQ.out]; exact fst_at hA.out hx h2
      have HA2 : Hid (unQ ls x = 0 → ∀ y ∈ us.take (j + 1), unQ ls y = 0) := fun h0 => take_all hA.out hx h0
      clear hx E hxs hA
      obtain ⟨qq, hqq⟩ : ∃ qq, alQ x = qq := ⟨_, rfl⟩
      obtain ⟨f, hf⟩ : ∃ f, hasK ls ⟨kT x, kK x⟩ = f := ⟨_, rfl⟩
      have HU : Hid (unQ ls x = if qq = 0 then (if f = true then 0 else 8) else qq) := by show _ = _; unfold unQ; rw [hqq, hf]
      have hlk := fun V hV => HK.out V (kT x) (kK x) hV
      rw [hf] at hlk
      rw [hqq] at hcon
      generalize kT x = kt at hky hlk
      generalize kK x = kk at hky hlk
      clear hqq hf
      generalize unQ ls x = uq at HU HAt HA2
      go_wp2_with fail
      refine hcon.mono ?_
      rintro e w1 ⟨rfl, m1, rfl⟩
      clear hcon
      have gd : Below wr.heap.size wr (wr.drewN m1) := below_draws (Below.refl _ _) m1
      have hky := hky _ gd
      have g := g.trans (gd.mono g.size)
      clear gd c1
      generalize wr.drewN m1 = wz at hky g ⊢
      have c1 := HT.out wz g
      by_cases h0 : qq = 0
      · subst h0
        go_wp2_with fail
        refine hky.mono ?_
        rintro e w2 ⟨rfl, g2⟩
        have g := g.trans (g2.mono g.size)
        clear hky g2 c1
        have hlk := hlk w2 g
        go_wp2_with fail
        refine hlk.mono ?_
        rintro e w3 ⟨rfl, g3⟩
        have g := g.trans (g3.mono g.size)
        clear hlk g3
        cases f
        · have HX : Hid (Q = 8) := by
            have h := HU.out
            simp at h
            have h2 := HAt.out (by rw [h]; decide)
            rw [h] at h2
            exact h2
          clear HU HAt HA2
          go_wp2_with fail
          go_ret
          exact ⟨by rw [HX.out]; rfl, g⟩
        · have HA3 : Hid (∀ y ∈ us.take (j + 1), unQ ls y = 0) := HA2.out (by rw [HU.out]; simp)
          clear HU HAt HA2
          go_wp2_with fail
          go_roundw
          case rel => exact ⟨j + 1, by omega, by go_num, HA3, g⟩
          case measure => simp [intOf]; omega
      · have d0 : (qq != 0) = true := by simpa using h0
        have HX : Hid (Q = qq) := by
          have h := HU.out
          rw [if_neg h0] at h
          have h2 := HAt.out (by rw [h]; exact h0)
          rw [h] at h2
          exact h2
        clear HU HAt HA2 h0 hky hlk c1
        go_wp2_with fail
        go_ret
        exact ⟨by rw [HX.out]; rfl, g⟩
    · have e : j = un := by omega
      subst e
      have HX : Hid (Q = 0) := by show _ = _; rw [← HQ.out]; exact fst_all (take_whole HN.out hA.out)
      clear hA
      go_wp2_with fail
      go_ret
      exact ⟨by rw [HX.out]; rfl, g⟩

/-- What the region of undoFault keeps. -/
structure UnS (D : World) (tb cb : Nat) (la : Option Addr) (ln lc : Nat) (x : Chg) (V : World) : Prop where
  t3 : V.cell? ⟨tb, 3, none⟩ = some (.slice la ln lc)
  c : ChC V cb 0 x
  g : Below D.heap.size D V
theorem UnS.up {D : World} {tb cb : Nat} {la : Option Addr} {ln lc : Nat} {x : Chg} {V V' : World} (h : UnS D tb cb la ln lc x V) (hb : Below V.heap.size V V') : UnS D tb cb la ln lc x V' :=
  ⟨(hb.cell (p := ⟨tb, 3, none⟩) (World.block_lt_of_cell? V _ h.t3)).trans h.t3, h.c.below hb h.c.lt, h.g.trans (hb.mono h.g.size)⟩

set_option maxHeartbeats 8000000 in
theorem undoFault_any (id : Int) (ua : Option Addr) (us : List Chg) (un uc : Nat) (ma : Option Addr) (mn mc : Nat) (la : Option Addr) (ls : List K2) (ln lc : Nat) (w : World) (hu : us.length = un) (hum : un ≤ 9223372036854775807) (hus : ∀ x ∈ us, x.b.s.size ≤ maxLen ∧ x.a.s.size ≤ maxLen) (ru : Rs chE 10 w ua us) (hl : ls.length = ln) (hlm : ln ≤ 9223372036854775807) (rl : Rs kyE 2 w la ls) :
    Calls Tryz.prog 86 #[.agg #[.int .i64 id, .slice ua un uc, .slice ma mn mc, .slice la ln lc]] w fun e w' => e = .returned (.int .i64 (fstQ (unQ ls) us)) ∧ Below w.heap.size w w' := by
  have HN : Hid (us.length = un) := hu
  have HS : Hid (∀ x ∈ us, x.b.s.size ≤ maxLen ∧ x.a.s.size ≤ maxLen) := hus
  have HR : Hid (Rs chE 10 w ua us) := ru
  have HK : Hid (∀ (V : World) (x y : Int), Below w.heap.size w V → Calls Tryz.prog 112 #[.slice la ln lc, .agg #[.int .i64 x, .int .i64 y]] V fun e w' => e = .returned (.bool (hasK ls ⟨x, y⟩)) ∧ Below V.heap.size V w') := fun V x y hV => has_any la ls ln lc x y V hl hlm (rl.below hV (Nat.le_refl _))
  obtain ⟨Q, hQ⟩ : ∃ Q, fstQ (unQ ls) us = Q := ⟨_, rfl⟩
  have HQ : Hid (fstQ (unQ ls) us = Q) := hQ
  rw [hQ]
  clear hu hus ru hl rl hQ
  go_enter Tryz.func86, Tryz.ntmps86
  go_upto_region 1 with (fail)
  generalize hY : World.alloc _ _ = Y
  have gY : Below w.heap.size w Y := by rw [← hY]; go_grown
  have hc : T4 Y w.heap.size id ua un uc ma mn mc la ln lc := by rw [← hY]; exact ⟨by simp [go_sem], by simp [go_sem], by simp [go_sem], by simp [go_sem]⟩
  clear hY
  obtain ⟨tb, htb⟩ : ∃ tb, w.heap.size = tb := ⟨_, rfl⟩
  rw [htb] at hc
  simp only [htb]
  have HTB : Hid (w.heap.size = tb) := htb
  clear htb
  have HT : Hid (∀ V, Below Y.heap.size Y V → V.cell? ⟨tb, 3, none⟩ = some (.slice la ln lc)) := fun V hV => (hV.cell (p := ⟨tb, 3, none⟩) hc.lt).trans hc.c3
  obtain ⟨y0, y1, y2, y3⟩ := hc
  go_upto_region 2 with (fail)
  clear y0 y1 y2 y3
  go_loopw [9] (fun i wr => ∃ j : Nat, j ≤ un ∧ i = .int .i64 j ∧ Hid (∀ y ∈ us.take j, unQ ls y = 0) ∧ Below Y.heap.size Y wr) (fun i _ => un - (intOf i).toNat)
  case atStart => exact ⟨0, Nat.zero_le _, rfl, by intro y hy; simp at hy, Below.refl _ _⟩
  case round =>
    obtain ⟨j, hj, rfl, hA, g⟩ := hrel
    have gw := gY.trans (g.mono gY.size)
    by_cases hlt : j < un
    · obtain ⟨x, hx⟩ : ∃ x, us[j]? = some x := ⟨_, List.getElem?_eq_getElem (by rw [HN.out]; exact hlt)⟩
      obtain ⟨b, off, rfl⟩ : ∃ b off, ua = some ⟨b, off, none⟩ := by
        obtain ⟨b, off, e, _⟩ := HR.out.chg hx
        exact ⟨b, off, e⟩
      have E : ChC wr b (off + j * 10) x := by
        have h1 := HR.out.chgAt hx
        exact h1.below gw h1.lt
      have hjn : (j : Int) < (un : Int) := by omega
      obtain ⟨hxb, hxa⟩ := HS.out x (List.mem_of_getElem? hx)
      have HAt : Hid (unQ ls x ≠ 0 → Q = unQ ls x) := fun h2 => by rw [← HQ.out]; exact fst_at hA.out hx h2
      have HA2 : Hid (unQ ls x = 0 → ∀ y ∈ us.take (j + 1), unQ ls y = 0) := fun h0 => take_all hA.out hx h0
      clear hx hA gw
      have hky := fun W => changedKey_any x W
      obtain ⟨qq, hqq⟩ : ∃ qq, alQ x = qq := ⟨_, rfl⟩
      obtain ⟨f, hf⟩ : ∃ f, hasK ls ⟨kT x, kK x⟩ = f := ⟨_, rfl⟩
      have HU : Hid (unQ ls x = if qq = 0 then (if f = true then 0 else 8) else qq) := by show _ = _; unfold unQ; rw [hqq, hf]
      have hlk := fun V hV => HK.out V (kT x) (kK x) hV
      rw [hf] at hlk
      generalize kT x = kt at hky hlk
      generalize kK x = kk at hky hlk
      generalize unQ ls x = uq at HU HAt HA2
      obtain ⟨x0, ⟨xt, xk, xv, xst⟩, x5, ⟨yt, yk, yv, yst⟩⟩ := x
      dsimp only at hxb hxa hky
      have hal := fun W => aloneFault_any x0 xt xk xv xst x5 yt yk yv yst W hxb hxa
      rw [hqq] at hal
      clear hqq hf
      obtain ⟨e0, e1, e2, e3, e4, e5, e6, e7, e8, e9⟩ := E
      dsimp only at e0 e1 e2 e3 e4 e5 e6 e7 e8 e9
      go_upto_region 4 with (fail)
      generalize hY : World.alloc _ _ = Y7
      have g7 : Below wr.heap.size wr Y7 := by rw [← hY]; go_grown
      have Z : ChC Y7 wr.heap.size 0 (⟨x0, ⟨xt, xk, xv, xst⟩, x5, ⟨yt, yk, yv, yst⟩⟩ : Chg) := by rw [← hY]; exact ⟨by simp [go_sem], by simp [go_sem], by simp [go_sem], by simp [go_sem], by simp [go_sem], by simp [go_sem], by simp [go_sem], by simp [go_sem], by simp [go_sem], by simp [go_sem]⟩
      have hlZ := Z.lt
      have g := g.trans (g7.mono g.size)
      clear hY e0 e1 e2 e3 e4 e5 e6 e7 e8 e9 g7
      generalize wr.heap.size = xb at Z hlZ ⊢
      obtain ⟨z0, z1, z2, z3, z4, z5, z6, z7, z8, z9⟩ := Z
      dsimp only at z0 z1 z2 z3 z4 z5 z6 z7 z8 z9
      go_wp2_with fail
      refine (hal _).mono ?_
      rintro e W1 ⟨rfl, g1⟩
      have Z : ChC W1 xb 0 (⟨x0, ⟨xt, xk, xv, xst⟩, x5, ⟨yt, yk, yv, yst⟩⟩ : Chg) := ChC.below (w := Y7) ⟨z0, z1, z2, z3, z4, z5, z6, z7, z8, z9⟩ g1 hlZ
      have g := g.trans (g1.mono g.size)
      clear z0 z1 z2 z3 z4 z5 z6 z7 z8 z9 g1 hlZ hal
      by_cases h0 : qq = 0
      · subst h0
        go_upto_region 7 with (fail)
        have H : UnS W1 tb xb la ln lc (⟨x0, ⟨xt, xk, xv, xst⟩, x5, ⟨yt, yk, yv, yst⟩⟩ : Chg) W1.drew := ⟨HT.out _ (g.trans ((Below.refl _ W1).drew.mono g.size)), Z.below (Below.refl _ W1).drew Z.lt, (Below.refl _ W1).drew⟩
        refine wp_region_held_drew (S := UnS W1 tb xb la ln lc (⟨x0, ⟨xt, xk, xv, xst⟩, x5, ⟨yt, yk, yv, yst⟩⟩ : Chg)) (by kernel_rfl) H (fun hHeld => ?_)
        generalize W1.drew = D0 at hHeld ⊢
        clear H Z
        refine wpAnyH_take (i := 0) (v := ?v1) rfl (by kernel_rfl) (by kernel_rfl) (by kernel_rfl) (fun _ _ _ h => h) (Or.inl ⟨by kernel_rfl, ?h1⟩) hHeld ?_
        case h1 => intro u hSw; clear hSw; go_simp; try with_reducible rfl
        try simp only [List.getElem_toArray]
        try simp only [List.getElem_cons_succ]
        try simp only [List.getElem_cons_zero]
        try simp only [Act.put]
        try simp only [List.setIfInBounds_toArray]
        try simp only [List.set]
        refine wpAnyH_take (i := 1) (v := ?v2) rfl (by kernel_rfl) (by kernel_rfl) (by kernel_rfl) (fun _ _ _ h => h) (Or.inl ⟨by kernel_rfl, ?h2⟩) hHeld ?_
        case h2 => intro u hSw; (have t3 := hSw.t3); clear hSw; go_simp; try with_reducible rfl
        try simp only [List.getElem_toArray]
        try simp only [List.getElem_cons_succ]
        try simp only [List.getElem_cons_zero]
        try simp only [Act.put]
        try simp only [List.setIfInBounds_toArray]
        try simp only [List.set]
        refine wpAnyH_take (i := 2) (v := ?v3) rfl (by kernel_rfl) (by kernel_rfl) (by kernel_rfl) (fun _ _ _ h => h) (Or.inl ⟨by kernel_rfl, ?h3⟩) hHeld ?_
        case h3 => intro u hSw; (obtain ⟨z0, z1, z2, z3, z4, z5, z6, z7, z8, z9⟩ := hSw.c); dsimp only at z0 z1 z2 z3 z4 z5 z6 z7 z8 z9; clear hSw; go_simp; try with_reducible rfl
        try simp only [List.getElem_toArray]
        try simp only [List.getElem_cons_succ]
        try simp only [List.getElem_cons_zero]
        try simp only [Act.put]
        try simp only [List.setIfInBounds_toArray]
        try simp only [List.set]
        refine wpAnyH_ready (rs := [3]) (by kernel_rfl) (by simp) ?_
        refine AllReadyH.cons rfl (fun K hK => ?_) AllReadyH.nil
        go_simp
        go_wp2_with (go_at_call 97; refine (hky _).mono ?_; rintro e U1 ⟨rfl, gg⟩)
        refine hK.out _ _ (hHeld.up gg) (fun hHeld => ?_)
        clear hK K
        clear gg
        try simp only [Act.put]
        try simp only [List.setIfInBounds_toArray]
        try simp only [List.set]
        refine wpAnyH_ready (rs := [4]) (by kernel_rfl) (by simp) ?_
        refine AllReadyH.cons rfl (fun K hK => ?_) AllReadyH.nil
        go_simp
        go_wp2_with (go_at_call 112; refine (hlk _ (gY.trans ((g.trans (hHeld.g.mono g.size)).mono gY.size))).mono ?_; rintro e U2 ⟨rfl, gg⟩)
        refine hK.out _ _ (hHeld.up gg) (fun hHeld => ?_)
        clear hK K
        clear gg
        try simp only [Act.put]
        try simp only [List.setIfInBounds_toArray]
        try simp only [List.set]
        refine wpAnyH_take (i := 5) (v := ?v4) rfl (by kernel_rfl) (by kernel_rfl) (by kernel_rfl) (fun _ _ _ h => h) (Or.inl ⟨by kernel_rfl, ?h4⟩) hHeld ?_
        case h4 => intro u hSw; clear hSw; go_simp; try with_reducible rfl
        try simp only [List.getElem_toArray]
        try simp only [List.getElem_cons_succ]
        try simp only [List.getElem_cons_zero]
        try simp only [Act.put]
        try simp only [List.setIfInBounds_toArray]
        try simp only [List.set]
        refine wpAnyH_done (by kernel_rfl) ?_ _
        have g := g.trans (hHeld.g.mono g.size)
        clear hHeld hlk hky
        cases f
        · have HX : Hid (Q = 8) := by
            have h := HU.out
            simp at h
            have h2 := HAt.out (by rw [h]; decide)
            rw [h] at h2
            exact h2
          clear HU HAt HA2
          go_wp2_with fail
          go_ret
          exact ⟨by rw [HX.out]; rfl, gY.trans (g.mono gY.size)⟩
        · have HA3 : Hid (∀ y ∈ us.take (j + 1), unQ ls y = 0) := HA2.out (by rw [HU.out]; simp)
          clear HU HAt HA2
          go_wp2_with fail
          go_roundw
          case rel => exact ⟨j + 1, by omega, by go_num, HA3, g⟩
          case measure => simp [intOf]; omega
      · have d0 : (qq != 0) = true := by simpa using h0
        have HX : Hid (Q = qq) := by
          have h := HU.out
          rw [if_neg h0] at h
          have h2 := HAt.out (by rw [h]; exact h0)
          rw [h] at h2
          exact h2
        clear HU HAt HA2 h0 hky hlk Z
        go_wp2_with fail
        go_ret
        exact ⟨by rw [HX.out]; rfl, gY.trans (g.mono gY.size)⟩
    · have e : j = un := by omega
      subst e
      have HX : Hid (Q = 0) := by show _ = _; rw [← HQ.out]; exact fst_all (take_whole HN.out hA.out)
      clear hA
      go_wp2_with fail
      go_ret
      exact ⟨by rw [HX.out]; rfl, gw⟩

end Go.Proofs.YtpjlpnaamkbicaaGreatDoor
