/-
  The law FnExactFoldChange answers true.
-/
import Derived.Test.YtonngopnhpmjaaaCFcg
import Derived.Test.YtonngopnhpmjaaaCCht
import Derived.Test.YtonngopnhpmjaaaCMkx

namespace Go.Proofs.Ytonngopnhpmjaaa
open Go.RowKit Go.Maps
set_option linter.unusedVariables false
set_option maxRecDepth 20000

/-- What a drawn region of the law keeps. -/
structure LcS (D : World) (b : Nat) (x : Chg) (V : World) : Prop where
  c : ChC V b 0 x
  g : Below D.heap.size D V
section
variable {D : World} {b : Nat} {x : Chg} {V V' : World}
theorem LcS.up (h : LcS D b x V) (hb : Below V.heap.size V V') : LcS D b x V' := ⟨h.c.below hb h.c.lt, h.g.trans (hb.mono h.g.size)⟩
theorem LcS.turned (h : LcS D b x V) {ab : Nat} (ht : Turned ab (ab + 1) V V') (hd : D.heap.size ≤ ab) (hDV : D.heap.size ≤ V.heap.size) (hb : b < D.heap.size) : LcS D b x V' :=
  ⟨h.c.below (ht.toBelow (B := D.heap.size) hDV hd) hb, h.g.trans (ht.toBelow hDV hd)⟩
end
theorem fcL_len (cs : List Chg) (c : Chg) : (fcL cs c).length ≤ 61 := by
  unfold fcL
  split
  · next h1 =>
    split
    · next h2 =>
      obtain ⟨hl, ha, hp⟩ := fdQ_zero h1
      rw [fdR_see hp]
      cases hr : seeR c cs with
      | none => simp
      | some r => have := see_len hr; simp only [Option.getD_some]; omega
    · simp
  · simp

set_option maxHeartbeats 16000000 in
theorem lawFoldChange_any (a : Option Addr) (n c : Nat) (cs : List Chg) (c0 : Bool) (ct ck cv : Int) (cst : ByteArray) (c5 : Bool) (dt dk dv : Int) (dst : ByteArray) (w : World) (h : IsChgs w a n cs) (hs1 : cst.size ≤ maxLen) (hs2 : dst.size ≤ maxLen) :
    Calls Try.prog 7 #[.slice a n c, .agg #[.bool c0, .int .i64 ct, .int .i64 ck, .int .i64 cv, .string cst, .bool c5, .int .i64 dt, .int .i64 dk, .int .i64 dv, .string dst]] w fun e w' => e = .returned (.bool true) ∧ Below w.heap.size w w' := by
  obtain ⟨hr, hn0, hm, hs⟩ := h
  have HN : Hid (cs.length = n) := hn0
  have HSm : Hid (∀ x ∈ cs, x.b.s.size ≤ maxLen ∧ x.a.s.size ≤ maxLen) := hs
  have HRw : Hid (∀ W, Below w.heap.size w W → Rs chE 10 W a cs) := fun W hW => hr.below hW (Nat.le_refl _)
  clear hr hn0 hs
  go_enter Try.func7, Try.ntmps7
  go_upto_region 2 with (fail)
  generalize hY : World.alloc _ _ = Y
  have gY : Below w.heap.size w Y := by rw [← hY]; go_grown
  have hcx : ChC Y w.heap.size 0 (⟨c0, ⟨ct, ck, cv, cst⟩, c5, ⟨dt, dk, dv, dst⟩⟩ : Chg) := by rw [← hY]; exact ⟨by simp [go_sem], by simp [go_sem], by simp [go_sem], by simp [go_sem], by simp [go_sem], by simp [go_sem], by simp [go_sem], by simp [go_sem], by simp [go_sem], by simp [go_sem]⟩
  clear hY
  obtain ⟨bx, hbx⟩ : ∃ bx, w.heap.size = bx := ⟨_, rfl⟩
  rw [hbx] at hcx
  simp only [hbx]
  have hbY : bx < Y.heap.size := hcx.lt
  clear hbx
  have HCx : Hid (∀ V, Below Y.heap.size Y V → ChC V bx 0 (⟨c0, ⟨ct, ck, cv, cst⟩, c5, ⟨dt, dk, dv, dst⟩⟩ : Chg)) := fun V hV => hcx.below hV hbY
  have HR : Hid (∀ V, Below Y.heap.size Y V → Rs chE 10 V a cs) := fun V hV => HRw.out V (gY.trans (hV.mono gY.size))
  clear hcx HRw
  go_wp2_with fail
  refine (szChangeS_any a cs n c _ 1048576 HN.out hm HSm.out (HR.out _ (Below.refl _ _)) (by omega) (by omega)).mono ?_
  rintro e w1 ⟨⟨r, rfl, hr1, hl⟩, g1⟩
  by_cases h0 : r < 0
  · go_wp2_with fail
    go_ret
    exact ⟨rfl, gY.trans (g1.mono gY.size)⟩
  have hn : n ≤ 1048576 := (hl (by omega)).1
  have HZ : Hid (∀ x ∈ cs, x.b.s.size ≤ 1048576 ∧ x.a.s.size ≤ 1048576) := (hl (by omega)).2
  have h0 : ¬ (r < 0) := h0
  clear hl
  have hsc := szChange_any c0 ct ck cv cst c5 dt dk dv dst r w1 hs1 hs2 (by omega) (by omega)
  obtain ⟨z0, z1, z2, z3, z4, z5, z6, z7, z8, z9⟩ := HCx.out _ g1
  dsimp only at z0 z1 z2 z3 z4 z5 z6 z7 z8 z9
  go_wp2_with (go_at_call 41; refine hsc.mono ?_)
  rintro e w2 ⟨⟨r2, rfl, hr2, hl⟩, g2⟩
  have gB : Below Y.heap.size Y w2 := g1.trans (g2.mono g1.size)
  clear z0 z1 z2 z3 z4 z5 z6 z7 z8 z9 hsc g1 g2
  by_cases h2 : r2 < 0
  · go_wp2_with fail
    go_ret
    exact ⟨rfl, gY.trans (gB.mono gY.size)⟩
  obtain ⟨hz1, hz2⟩ := hl (by omega)
  have h2 : ¬ (r2 < 0) := h2
  clear hl
  have HTo : Hid (∀ V, Below Y.heap.size Y V → Calls Try.prog 43 #[.slice a n c] V fun e w' => e = .returned (.slice (some ⟨V.heap.size, 0, none⟩) n n) ∧ Below V.heap.size V w' ∧ Rs chE 10 w' (some ⟨V.heap.size, 0, none⟩) cs) := fun V hV => by
    refine (toChangeS_any a cs n c V HN.out hn (HR.out V hV)).mono ?_
    rintro e w' ⟨rfl, g2, o2⟩
    exact ⟨rfl, g2, o2.reads⟩
  have hLl := fcL_len cs (⟨c0, ⟨ct, ck, cv, cst⟩, c5, ⟨dt, dk, dv, dst⟩⟩ : Chg)
  have HSpec0 : Hid (∀ (a : Option Addr) (W : World), Rs chE 10 W a cs → Calls Try.prog 42 #[.slice a n n, .agg #[.bool c0, .int .i64 ct, .int .i64 ck, .int .i64 cv, .string cst, .bool c5, .int .i64 dt, .int .i64 dk, .int .i64 dv, .string dst]] W fun e w' => FcPost (fcQ cs (⟨c0, ⟨ct, ck, cv, cst⟩, c5, ⟨dt, dk, dv, dst⟩⟩ : Chg)) (fcL cs (⟨c0, ⟨ct, ck, cv, cst⟩, c5, ⟨dt, dk, dv, dst⟩⟩ : Chg)) W e w') := fun a W h1 => specFoldChange_any a cs n n c0 ct ck cv cst c5 dt dk dv dst W HN.out hm HSm.out hs1 hs2 h1
  have HImpl0 : Hid (∀ (a : Option Addr) (W : World), Rs chE 10 W a cs → Calls Try.prog 45 #[.slice a n n, .agg #[.bool c0, .int .i64 ct, .int .i64 ck, .int .i64 cv, .string cst, .bool c5, .int .i64 dt, .int .i64 dk, .int .i64 dv, .string dst]] W fun e w' => FcPost (fcQ cs (⟨c0, ⟨ct, ck, cv, cst⟩, c5, ⟨dt, dk, dv, dst⟩⟩ : Chg)) (fcL cs (⟨c0, ⟨ct, ck, cv, cst⟩, c5, ⟨dt, dk, dv, dst⟩⟩ : Chg)) W e w') := fun a W h1 => implFoldChange_any a cs n n c0 ct ck cv cst c5 dt dk dv dst W HN.out hm HZ.out hz1 hz2 h1
  generalize fcQ cs (⟨c0, ⟨ct, ck, cv, cst⟩, c5, ⟨dt, dk, dv, dst⟩⟩ : Chg) = q at HSpec0 HImpl0
  generalize fcL cs (⟨c0, ⟨ct, ck, cv, cst⟩, c5, ⟨dt, dk, dv, dst⟩⟩ : Chg) = L at HSpec0 HImpl0 hLl
  obtain ⟨m, hm0⟩ : ∃ m, m = L.length := ⟨_, rfl⟩
  have HM : Hid (L.length = m) := hm0.symm
  have hm1 : m ≤ 1000 := by omega
  have HSpec : Hid (∀ (a : Option Addr) (W : World), Rs chE 10 W a cs → Calls Try.prog 42 #[.slice a n n, .agg #[.bool c0, .int .i64 ct, .int .i64 ck, .int .i64 cv, .string cst, .bool c5, .int .i64 dt, .int .i64 dk, .int .i64 dv, .string dst]] W fun e w' => ∃ p3 c3, e = .returned (.agg #[.int .i64 q, .slice p3 m c3]) ∧ Below W.heap.size W w' ∧ SlIn chE 10 W.heap.size w'.heap.size w' p3 L) := fun a W h1 => (HSpec0.out a W h1).mono fun e w' hA => by
    obtain ⟨p3, c3, h3⟩ := hA.form
    rw [HM.out] at h3
    exact ⟨p3, c3, h3⟩
  have HImpl : Hid (∀ (a : Option Addr) (W : World), Rs chE 10 W a cs → Calls Try.prog 45 #[.slice a n n, .agg #[.bool c0, .int .i64 ct, .int .i64 ck, .int .i64 cv, .string cst, .bool c5, .int .i64 dt, .int .i64 dk, .int .i64 dv, .string dst]] W fun e w' => ∃ p3 c3, e = .returned (.agg #[.int .i64 q, .slice p3 m c3]) ∧ Below W.heap.size W w' ∧ SlIn chE 10 W.heap.size w'.heap.size w' p3 L) := fun a W h1 => (HImpl0.out a W h1).mono fun e w' hA => by
    obtain ⟨p3, c3, h3⟩ := hA.form
    rw [HM.out] at h3
    exact ⟨p3, c3, h3⟩
  clear hm0 HSpec0 HImpl0 hLl hz1 hz2 hs1 hs2
  go_upto_region 8 with (fail)
  have hbB : bx < w2.heap.size := Nat.lt_of_lt_of_le hbY gB.size
  go_cut [6] from 13 (fun s6 wc => ∃ (ab : Nat) (p3 : Option Addr) (c3 lo hi : Nat), s6 = .pointer (some ⟨ab, 0, none⟩) ∧ Below w2.heap.size w2 wc ∧ RsC wc ab q p3 m c3 ∧ SlIn chE 10 lo hi wc p3 L ∧ w2.heap.size ≤ lo ∧ hi ≤ wc.heap.size ∧ w2.heap.size ≤ ab)
  case first =>
    have H : LcS w2 bx (⟨c0, ⟨ct, ck, cv, cst⟩, c5, ⟨dt, dk, dv, dst⟩⟩ : Chg) w2.drew := ⟨HCx.out _ (gB.trans ((Below.refl _ w2).drew.mono gB.size)), (Below.refl _ w2).drew⟩
    refine wp_region_held_drew (S := LcS w2 bx (⟨c0, ⟨ct, ck, cv, cst⟩, c5, ⟨dt, dk, dv, dst⟩⟩ : Chg)) (by kernel_rfl) H (fun hHeld => ?_)
    have hDV : w2.heap.size ≤ w2.drew.heap.size := Nat.le_refl _
    generalize w2.drew = D0 at hHeld hDV ⊢
    clear H
    have HT : Hid (∀ V, Below w2.heap.size w2 V → Calls Try.prog 43 #[.slice a n c] V fun e w' => e = .returned (.slice (some ⟨V.heap.size, 0, none⟩) n n) ∧ Below V.heap.size V w' ∧ Rs chE 10 w' (some ⟨V.heap.size, 0, none⟩) cs) := fun V hV => HTo.out V (gB.trans (hV.mono gB.size))
    clear gB
    refine wpAnyH_take (i := 0) (v := ?v1) rfl (by kernel_rfl) (by kernel_rfl) (by kernel_rfl) (fun _ _ _ h => h) (Or.inl ⟨by kernel_rfl, ?h1⟩) hHeld ?_
    case h1 => intro u hSw; clear hSw; go_simp; try with_reducible rfl
    try simp only [List.getElem_toArray]
    try simp only [List.getElem_cons_succ]
    try simp only [List.getElem_cons_zero]
    try simp only [Act.put]
    try simp only [List.setIfInBounds_toArray]
    try simp only [List.set]
    refine wpAnyH_take (i := 2) (v := ?v2) rfl (by kernel_rfl) (by kernel_rfl) (by kernel_rfl) (fun _ _ _ h => h) (Or.inl ⟨by kernel_rfl, ?h2⟩) hHeld ?_
    case h2 => intro u hSw; (obtain ⟨z0, z1, z2, z3, z4, z5, z6, z7, z8, z9⟩ := hSw.c); dsimp only at z0 z1 z2 z3 z4 z5 z6 z7 z8 z9; clear hSw; go_simp; try with_reducible rfl
    try simp only [List.getElem_toArray]
    try simp only [List.getElem_cons_succ]
    try simp only [List.getElem_cons_zero]
    try simp only [Act.put]
    try simp only [List.setIfInBounds_toArray]
    try simp only [List.set]
    refine wpAnyH_ready (rs := [1, 5]) (by kernel_rfl) (by simp) ?_
    refine AllReadyH.cons rfl (fun K hK => ?_) (AllReadyH.cons rfl (fun K hK => ?_) AllReadyH.nil)
    · go_simp
      go_wp2_with (go_at_call 43; refine (HT.out _ hHeld.g).mono ?_; rintro e U1 ⟨rfl, gg, r1⟩)
      refine hK.out _ _ (hHeld.up gg) (fun hHeld => ?_)
      clear hK K
      have hDV' : w2.heap.size ≤ U1.heap.size := Nat.le_trans hDV gg.size
      clear gg hDV
      have hDV := hDV'
      clear hDV'
      generalize D0.heap.size = lb at r1 ⊢
      try simp only [Act.put]
      try simp only [List.setIfInBounds_toArray]
      try simp only [List.set]
      refine wpAnyH_ready (rs := [3, 5]) (by kernel_rfl) (by simp) ?_
      refine AllReadyH.cons rfl (fun K hK => ?_) (AllReadyH.cons rfl (fun K hK => ?_) AllReadyH.nil)
      · go_simp
        go_wp2_with (go_at_call 44; refine (toChange_any c0 ct ck cv cst c5 dt dk dv dst _).mono ?_; rintro e U2 ⟨rfl, gg⟩)
        refine hK.out _ _ (hHeld.up gg) (fun hHeld => ?_)
        clear hK K
        have r1 := r1.below gg (Nat.le_refl _)
        have hDV' : w2.heap.size ≤ U2.heap.size := Nat.le_trans hDV gg.size
        clear gg hDV
        have hDV := hDV'
        clear hDV'
        try simp only [Act.put]
        try simp only [List.setIfInBounds_toArray]
        try simp only [List.set]
        refine wpAnyH_ready (rs := [4, 5]) (by kernel_rfl) (by simp) ?_
        refine AllReadyH.cons rfl (fun K hK => ?_) (AllReadyH.cons rfl (fun K hK => ?_) AllReadyH.nil)
        · go_simp
          go_wp2_with (go_at_call 42; refine (HSpec.out _ _ r1).mono ?_; rintro e U3 ⟨p3, c3, rfl, gg, y3⟩)
          refine hK.out _ _ (hHeld.up gg) (fun hHeld => ?_)
          clear hK K
          have hDV' : w2.heap.size ≤ U3.heap.size := Nat.le_trans hDV gg.size
          have hlo : w2.heap.size ≤ U2.heap.size := hDV
          obtain ⟨lo, hlo'⟩ : ∃ lo, U2.heap.size = lo := ⟨_, rfl⟩
          obtain ⟨hi, hhi'⟩ : ∃ hi, U3.heap.size = hi := ⟨_, rfl⟩
          have hle : hi ≤ U3.heap.size := Nat.le_of_eq hhi'.symm
          rw [hlo', hhi'] at y3
          rw [hlo'] at hlo
          clear hlo' hhi'
          clear gg hDV
          have hDV := hDV'
          clear hDV'
          try simp only [Act.put]
          try simp only [List.setIfInBounds_toArray]
          try simp only [List.set]
          refine wpAnyH_ready (rs := [5]) (by kernel_rfl) (by simp) ?_
          refine AllReadyH.cons rfl (fun K hK => ?_) AllReadyH.nil
          have gg : Below U3.heap.size U3 (U3.alloc (.cells #[.int .i64 0, .slice none 0 0] 26)) := by go_grown
          have hab : w2.heap.size ≤ U3.heap.size := hDV
          have hB : Rc2 (U3.alloc (.cells #[.int .i64 0, .slice none 0 0] 26)) U3.heap.size := ⟨by simp [go_sem], by simp [go_sem], by simp [go_sem], by simp [go_sem]⟩
          have hpos : hi ≤ U3.heap.size ∨ U3.heap.size + 1 ≤ lo := .inl hle
          have hle : hi ≤ (U3.alloc (.cells #[.int .i64 0, .slice none 0 0] 26)).heap.size := Nat.le_trans hle gg.size
          have hDV : w2.heap.size ≤ (U3.alloc (.cells #[.int .i64 0, .slice none 0 0] 26)).heap.size := Nat.le_trans hDV gg.size
          go_simp
          refine hK.out _ _ (hHeld.up gg) (fun hHeld => ?_)
          clear hK K
          have y3 := y3.below gg
          clear gg
          generalize U3.alloc (.cells #[.int .i64 0, .slice none 0 0] 26) = U4 at hHeld hB hDV y3 hle ⊢
          generalize U3.heap.size = ab at hB hab hpos ⊢
          try simp only [Act.put]
          try simp only [List.setIfInBounds_toArray]
          try simp only [List.set]
          have T : Turned ab (ab + 1) U4 ((U4.setCell ⟨ab, 0, none⟩ (.int .i64 q)).setCell ⟨ab, 1, none⟩ (.slice p3 m c3)) := ((Turned.refl _ _ U4).setCell (p := ⟨ab, 0, none⟩) (Nat.le_refl _) (Nat.lt_succ_self _) _).setCell (p := ⟨ab, 1, none⟩) (Nat.le_refl _) (Nat.lt_succ_self _) _
          obtain ⟨a0, a1, f0, f1⟩ := hB
          refine wpAnyH_ready (rs := [6]) (by kernel_rfl) (by simp) ?_
          refine AllReadyH.cons rfl (fun K hK => ?_) AllReadyH.nil
          go_simp
          refine hK.out _ _ (hHeld.turned T hab hDV hbB) (fun hHeld => ?_)
          clear hK K
          try simp only [Act.put]
          try simp only [List.setIfInBounds_toArray]
          try simp only [List.set]
          refine wpAnyH_done (by kernel_rfl) ?_ _
          have b3 : RsC ((U4.setCell ⟨ab, 0, none⟩ (.int .i64 q)).setCell ⟨ab, 1, none⟩ (.slice p3 m c3)) ab q p3 m c3 := ⟨by simp [go_sem, a0], by simp [go_sem, a1]⟩
          have y3 := y3.turned T hpos
          have hsz : hi ≤ ((U4.setCell ⟨ab, 0, none⟩ (.int .i64 q)).setCell ⟨ab, 1, none⟩ (.slice p3 m c3)).heap.size := by rw [World.size_setCell, World.size_setCell]; exact hle
          go_wp2_with fail
          go_meet
          case rel => exact ⟨ab, p3, c3, lo, hi, rfl, hHeld.g, b3, y3, hlo, hsz, hab⟩
        · have gg : Below U2.heap.size U2 (U2.alloc (.cells #[.int .i64 0, .slice none 0 0] 26)) := by go_grown
          have hab : w2.heap.size ≤ U2.heap.size := hDV
          have hB : Rc2 (U2.alloc (.cells #[.int .i64 0, .slice none 0 0] 26)) U2.heap.size := ⟨by simp [go_sem], by simp [go_sem], by simp [go_sem], by simp [go_sem]⟩
          have hDV : w2.heap.size ≤ (U2.alloc (.cells #[.int .i64 0, .slice none 0 0] 26)).heap.size := Nat.le_trans hDV gg.size
          go_simp
          refine hK.out _ _ (hHeld.up gg) (fun hHeld => ?_)
          clear hK K
          have r1 := r1.below gg (Nat.le_refl _)
          clear gg
          generalize U2.alloc (.cells #[.int .i64 0, .slice none 0 0] 26) = U5 at hHeld hB hDV r1 ⊢
          generalize U2.heap.size = ab at hB hab  ⊢
          try simp only [Act.put]
          try simp only [List.setIfInBounds_toArray]
          try simp only [List.set]
          refine wpAnyH_ready (rs := [4]) (by kernel_rfl) (by simp) ?_
          refine AllReadyH.cons rfl (fun K hK => ?_) AllReadyH.nil
          have hAb : ab < U5.heap.size := hB.lt
          go_simp
          go_wp2_with (go_at_call 42; refine (HSpec.out _ _ r1).mono ?_; rintro e U6 ⟨p3, c3, rfl, gg, y3⟩)
          refine hK.out _ _ (hHeld.up gg) (fun hHeld => ?_)
          clear hK K
          have hB := hB.below gg
          have hDV' : w2.heap.size ≤ U6.heap.size := Nat.le_trans hDV gg.size
          have hlo : w2.heap.size ≤ U5.heap.size := hDV
          have hpos : U6.heap.size ≤ ab ∨ ab + 1 ≤ U5.heap.size := .inr hAb
          obtain ⟨lo, hlo'⟩ : ∃ lo, U5.heap.size = lo := ⟨_, rfl⟩
          obtain ⟨hi, hhi'⟩ : ∃ hi, U6.heap.size = hi := ⟨_, rfl⟩
          have hle : hi ≤ U6.heap.size := Nat.le_of_eq hhi'.symm
          rw [hlo', hhi'] at y3
          rw [hlo'] at hlo
          rw [hlo', hhi'] at hpos
          clear hlo' hhi'
          clear gg hDV
          have hDV := hDV'
          clear hDV'
          try simp only [Act.put]
          try simp only [List.setIfInBounds_toArray]
          try simp only [List.set]
          have T : Turned ab (ab + 1) U6 ((U6.setCell ⟨ab, 0, none⟩ (.int .i64 q)).setCell ⟨ab, 1, none⟩ (.slice p3 m c3)) := ((Turned.refl _ _ U6).setCell (p := ⟨ab, 0, none⟩) (Nat.le_refl _) (Nat.lt_succ_self _) _).setCell (p := ⟨ab, 1, none⟩) (Nat.le_refl _) (Nat.lt_succ_self _) _
          obtain ⟨a0, a1, f0, f1⟩ := hB
          refine wpAnyH_ready (rs := [6]) (by kernel_rfl) (by simp) ?_
          refine AllReadyH.cons rfl (fun K hK => ?_) AllReadyH.nil
          go_simp
          refine hK.out _ _ (hHeld.turned T hab hDV hbB) (fun hHeld => ?_)
          clear hK K
          try simp only [Act.put]
          try simp only [List.setIfInBounds_toArray]
          try simp only [List.set]
          refine wpAnyH_done (by kernel_rfl) ?_ _
          have b3 : RsC ((U6.setCell ⟨ab, 0, none⟩ (.int .i64 q)).setCell ⟨ab, 1, none⟩ (.slice p3 m c3)) ab q p3 m c3 := ⟨by simp [go_sem, a0], by simp [go_sem, a1]⟩
          have y3 := y3.turned T hpos
          have hsz : hi ≤ ((U6.setCell ⟨ab, 0, none⟩ (.int .i64 q)).setCell ⟨ab, 1, none⟩ (.slice p3 m c3)).heap.size := by rw [World.size_setCell, World.size_setCell]; exact hle
          go_wp2_with fail
          go_meet
          case rel => exact ⟨ab, p3, c3, lo, hi, rfl, hHeld.g, b3, y3, hlo, hsz, hab⟩
      · have gg : Below U1.heap.size U1 (U1.alloc (.cells #[.int .i64 0, .slice none 0 0] 26)) := by go_grown
        have hab : w2.heap.size ≤ U1.heap.size := hDV
        have hB : Rc2 (U1.alloc (.cells #[.int .i64 0, .slice none 0 0] 26)) U1.heap.size := ⟨by simp [go_sem], by simp [go_sem], by simp [go_sem], by simp [go_sem]⟩
        have hDV : w2.heap.size ≤ (U1.alloc (.cells #[.int .i64 0, .slice none 0 0] 26)).heap.size := Nat.le_trans hDV gg.size
        go_simp
        refine hK.out _ _ (hHeld.up gg) (fun hHeld => ?_)
        clear hK K
        have r1 := r1.below gg (Nat.le_refl _)
        clear gg
        generalize U1.alloc (.cells #[.int .i64 0, .slice none 0 0] 26) = U7 at hHeld hB hDV r1 ⊢
        generalize U1.heap.size = ab at hB hab  ⊢
        try simp only [Act.put]
        try simp only [List.setIfInBounds_toArray]
        try simp only [List.set]
        refine wpAnyH_ready (rs := [3]) (by kernel_rfl) (by simp) ?_
        refine AllReadyH.cons rfl (fun K hK => ?_) AllReadyH.nil
        go_simp
        go_wp2_with (go_at_call 44; refine (toChange_any c0 ct ck cv cst c5 dt dk dv dst _).mono ?_; rintro e U8 ⟨rfl, gg⟩)
        refine hK.out _ _ (hHeld.up gg) (fun hHeld => ?_)
        clear hK K
        have r1 := r1.below gg (Nat.le_refl _)
        have hB := hB.below gg
        have hDV' : w2.heap.size ≤ U8.heap.size := Nat.le_trans hDV gg.size
        clear gg hDV
        have hDV := hDV'
        clear hDV'
        try simp only [Act.put]
        try simp only [List.setIfInBounds_toArray]
        try simp only [List.set]
        refine wpAnyH_ready (rs := [4]) (by kernel_rfl) (by simp) ?_
        refine AllReadyH.cons rfl (fun K hK => ?_) AllReadyH.nil
        have hAb : ab < U8.heap.size := hB.lt
        go_simp
        go_wp2_with (go_at_call 42; refine (HSpec.out _ _ r1).mono ?_; rintro e U9 ⟨p3, c3, rfl, gg, y3⟩)
        refine hK.out _ _ (hHeld.up gg) (fun hHeld => ?_)
        clear hK K
        have hB := hB.below gg
        have hDV' : w2.heap.size ≤ U9.heap.size := Nat.le_trans hDV gg.size
        have hlo : w2.heap.size ≤ U8.heap.size := hDV
        have hpos : U9.heap.size ≤ ab ∨ ab + 1 ≤ U8.heap.size := .inr hAb
        obtain ⟨lo, hlo'⟩ : ∃ lo, U8.heap.size = lo := ⟨_, rfl⟩
        obtain ⟨hi, hhi'⟩ : ∃ hi, U9.heap.size = hi := ⟨_, rfl⟩
        have hle : hi ≤ U9.heap.size := Nat.le_of_eq hhi'.symm
        rw [hlo', hhi'] at y3
        rw [hlo'] at hlo
        rw [hlo', hhi'] at hpos
        clear hlo' hhi'
        clear gg hDV
        have hDV := hDV'
        clear hDV'
        try simp only [Act.put]
        try simp only [List.setIfInBounds_toArray]
        try simp only [List.set]
        have T : Turned ab (ab + 1) U9 ((U9.setCell ⟨ab, 0, none⟩ (.int .i64 q)).setCell ⟨ab, 1, none⟩ (.slice p3 m c3)) := ((Turned.refl _ _ U9).setCell (p := ⟨ab, 0, none⟩) (Nat.le_refl _) (Nat.lt_succ_self _) _).setCell (p := ⟨ab, 1, none⟩) (Nat.le_refl _) (Nat.lt_succ_self _) _
        obtain ⟨a0, a1, f0, f1⟩ := hB
        refine wpAnyH_ready (rs := [6]) (by kernel_rfl) (by simp) ?_
        refine AllReadyH.cons rfl (fun K hK => ?_) AllReadyH.nil
        go_simp
        refine hK.out _ _ (hHeld.turned T hab hDV hbB) (fun hHeld => ?_)
        clear hK K
        try simp only [Act.put]
        try simp only [List.setIfInBounds_toArray]
        try simp only [List.set]
        refine wpAnyH_done (by kernel_rfl) ?_ _
        have b3 : RsC ((U9.setCell ⟨ab, 0, none⟩ (.int .i64 q)).setCell ⟨ab, 1, none⟩ (.slice p3 m c3)) ab q p3 m c3 := ⟨by simp [go_sem, a0], by simp [go_sem, a1]⟩
        have y3 := y3.turned T hpos
        have hsz : hi ≤ ((U9.setCell ⟨ab, 0, none⟩ (.int .i64 q)).setCell ⟨ab, 1, none⟩ (.slice p3 m c3)).heap.size := by rw [World.size_setCell, World.size_setCell]; exact hle
        go_wp2_with fail
        go_meet
        case rel => exact ⟨ab, p3, c3, lo, hi, rfl, hHeld.g, b3, y3, hlo, hsz, hab⟩
    · have gg : Below D0.heap.size D0 (D0.alloc (.cells #[.int .i64 0, .slice none 0 0] 26)) := by go_grown
      have hab : w2.heap.size ≤ D0.heap.size := hDV
      have hB : Rc2 (D0.alloc (.cells #[.int .i64 0, .slice none 0 0] 26)) D0.heap.size := ⟨by simp [go_sem], by simp [go_sem], by simp [go_sem], by simp [go_sem]⟩
      have hDV : w2.heap.size ≤ (D0.alloc (.cells #[.int .i64 0, .slice none 0 0] 26)).heap.size := Nat.le_trans hDV gg.size
      go_simp
      refine hK.out _ _ (hHeld.up gg) (fun hHeld => ?_)
      clear hK K
      clear gg
      generalize D0.alloc (.cells #[.int .i64 0, .slice none 0 0] 26) = U10 at hHeld hB hDV ⊢
      generalize D0.heap.size = ab at hB hab  ⊢
      try simp only [Act.put]
      try simp only [List.setIfInBounds_toArray]
      try simp only [List.set]
      refine wpAnyH_ready (rs := [1]) (by kernel_rfl) (by simp) ?_
      refine AllReadyH.cons rfl (fun K hK => ?_) AllReadyH.nil
      go_simp
      go_wp2_with (go_at_call 43; refine (HT.out _ hHeld.g).mono ?_; rintro e U11 ⟨rfl, gg, r1⟩)
      refine hK.out _ _ (hHeld.up gg) (fun hHeld => ?_)
      clear hK K
      have hB := hB.below gg
      have hDV' : w2.heap.size ≤ U11.heap.size := Nat.le_trans hDV gg.size
      clear gg hDV
      have hDV := hDV'
      clear hDV'
      generalize U10.heap.size = lb at r1 ⊢
      try simp only [Act.put]
      try simp only [List.setIfInBounds_toArray]
      try simp only [List.set]
      refine wpAnyH_ready (rs := [3]) (by kernel_rfl) (by simp) ?_
      refine AllReadyH.cons rfl (fun K hK => ?_) AllReadyH.nil
      go_simp
      go_wp2_with (go_at_call 44; refine (toChange_any c0 ct ck cv cst c5 dt dk dv dst _).mono ?_; rintro e U12 ⟨rfl, gg⟩)
      refine hK.out _ _ (hHeld.up gg) (fun hHeld => ?_)
      clear hK K
      have r1 := r1.below gg (Nat.le_refl _)
      have hB := hB.below gg
      have hDV' : w2.heap.size ≤ U12.heap.size := Nat.le_trans hDV gg.size
      clear gg hDV
      have hDV := hDV'
      clear hDV'
      try simp only [Act.put]
      try simp only [List.setIfInBounds_toArray]
      try simp only [List.set]
      refine wpAnyH_ready (rs := [4]) (by kernel_rfl) (by simp) ?_
      refine AllReadyH.cons rfl (fun K hK => ?_) AllReadyH.nil
      have hAb : ab < U12.heap.size := hB.lt
      go_simp
      go_wp2_with (go_at_call 42; refine (HSpec.out _ _ r1).mono ?_; rintro e U13 ⟨p3, c3, rfl, gg, y3⟩)
      refine hK.out _ _ (hHeld.up gg) (fun hHeld => ?_)
      clear hK K
      have hB := hB.below gg
      have hDV' : w2.heap.size ≤ U13.heap.size := Nat.le_trans hDV gg.size
      have hlo : w2.heap.size ≤ U12.heap.size := hDV
      have hpos : U13.heap.size ≤ ab ∨ ab + 1 ≤ U12.heap.size := .inr hAb
      obtain ⟨lo, hlo'⟩ : ∃ lo, U12.heap.size = lo := ⟨_, rfl⟩
      obtain ⟨hi, hhi'⟩ : ∃ hi, U13.heap.size = hi := ⟨_, rfl⟩
      have hle : hi ≤ U13.heap.size := Nat.le_of_eq hhi'.symm
      rw [hlo', hhi'] at y3
      rw [hlo'] at hlo
      rw [hlo', hhi'] at hpos
      clear hlo' hhi'
      clear gg hDV
      have hDV := hDV'
      clear hDV'
      try simp only [Act.put]
      try simp only [List.setIfInBounds_toArray]
      try simp only [List.set]
      have T : Turned ab (ab + 1) U13 ((U13.setCell ⟨ab, 0, none⟩ (.int .i64 q)).setCell ⟨ab, 1, none⟩ (.slice p3 m c3)) := ((Turned.refl _ _ U13).setCell (p := ⟨ab, 0, none⟩) (Nat.le_refl _) (Nat.lt_succ_self _) _).setCell (p := ⟨ab, 1, none⟩) (Nat.le_refl _) (Nat.lt_succ_self _) _
      obtain ⟨a0, a1, f0, f1⟩ := hB
      refine wpAnyH_ready (rs := [6]) (by kernel_rfl) (by simp) ?_
      refine AllReadyH.cons rfl (fun K hK => ?_) AllReadyH.nil
      go_simp
      refine hK.out _ _ (hHeld.turned T hab hDV hbB) (fun hHeld => ?_)
      clear hK K
      try simp only [Act.put]
      try simp only [List.setIfInBounds_toArray]
      try simp only [List.set]
      refine wpAnyH_done (by kernel_rfl) ?_ _
      have b3 : RsC ((U13.setCell ⟨ab, 0, none⟩ (.int .i64 q)).setCell ⟨ab, 1, none⟩ (.slice p3 m c3)) ab q p3 m c3 := ⟨by simp [go_sem, a0], by simp [go_sem, a1]⟩
      have y3 := y3.turned T hpos
      have hsz : hi ≤ ((U13.setCell ⟨ab, 0, none⟩ (.int .i64 q)).setCell ⟨ab, 1, none⟩ (.slice p3 m c3)).heap.size := by rw [World.size_setCell, World.size_setCell]; exact hle
      go_wp2_with fail
      go_meet
      case rel => exact ⟨ab, p3, c3, lo, hi, rfl, hHeld.g, b3, y3, hlo, hsz, hab⟩
  case rest =>
    obtain ⟨b3, a3, c3, lo3, hi3, rfl, g3', C3, s3, hlo3, hhi3, hb3⟩ := hcut
    have g3 : Below Y.heap.size Y wc := gB.trans (g3'.mono gB.size)
    have hl3 := C3.lt
    clear g3' gB hbB hlo3 hb3
    go_wp2_with fail
    refine (toChangeS_any a cs n c _ HN.out hn (HR.out _ g3)).mono ?_
    rintro e w4 ⟨rfl, g4, o4⟩
    have C3 := C3.below g4
    have s3 := s3.below g4
    have hYb4 : Y.heap.size ≤ wc.heap.size := g3.size
    have hb47 : wc.heap.size ≤ w4.heap.size := g4.size
    have g4 : Below Y.heap.size Y w4 := g3.trans (g4.mono g3.size)
    generalize wc.heap.size = b4 at o4 hl3 hhi3 hYb4 hb47 ⊢
    clear g3
    obtain ⟨z0, z1, z2, z3, z4, z5, z6, z7, z8, z9⟩ := HCx.out _ g4
    dsimp only at z0 z1 z2 z3 z4 z5 z6 z7 z8 z9
    go_wp2_with fail
    refine (toChange_any c0 ct ck cv cst c5 dt dk dv dst _).mono ?_
    rintro e w4' ⟨rfl, g5⟩
    have C3 := C3.below g5
    have s3 := s3.below g5
    have o4 := o4.below g5
    have hw4 := g5.size
    have r4 := o4.reads
    have g4 := g4.trans (g5.mono g4.size)
    clear z0 z1 z2 z3 z4 z5 z6 z7 z8 z9 g5
    go_wp2_with fail
    refine (HImpl.out _ _ r4).mono ?_
    rintro e w5 ⟨a5, c5', rfl, g5, s5⟩
    have hs5 := g5.size
    have C3 := C3.below g5
    have s3 := s3.below g5
    have o5 := o4.below g5
    have g5 : Below Y.heap.size Y w5 := g4.trans (g5.mono g4.size)
    clear g4 o4 r4
    go_upto_region 11 with (fail)
    generalize hY : World.alloc _ _ = Y5
    have gY5 : Below w5.heap.size w5 Y5 := by rw [← hY]; go_grown
    have C5 : RsC Y5 w5.heap.size q a5 m c5' := by rw [← hY]; exact ⟨by simp [go_sem], by simp [go_sem]⟩
    have C3 := C3.below gY5
    have s3 := s3.below gY5
    have s5 := s5.below gY5
    have o5 := o5.below gY5
    have g5 := g5.trans (gY5.mono g5.size)
    clear hY gY5
    generalize w5.heap.size = b5 at C5 s5 hs5 ⊢
    generalize w4'.heap.size = b6 at s5 hs5 hw4
    generalize w4.heap.size = b7 at o5 hw4 hb47
    have hcon := eqChangesResult_same q a5 a3 L m c5' c3 Y5 HM.out hm1 s5.reads s3.reads
    obtain ⟨x0, x1⟩ := C3
    obtain ⟨y0, y1⟩ := C5
    go_wp2_with (go_at_call 12; refine hcon.mono ?_)
    rintro e w6 ⟨rfl, g6⟩
    have C3 : RsC w6 b3 q a3 m c3 := RsC.below (w := Y5) ⟨x0, x1⟩ g6
    have C5 : RsC w6 b5 q a5 m c5' := RsC.below (w := Y5) ⟨y0, y1⟩ g6
    have s3 := s3.below g6
    have s5 := s5.below g6
    have o6 := o5.below g6
    have g6 := g5.trans (g6.mono g5.size)
    clear g5 o5 x0 x1 y0 y1 hcon
    go_wp2_with fail
    refine (toChangeS_any a cs n c _ HN.out hn (HR.out _ g6)).mono ?_
    rintro e w7 ⟨rfl, g7, o7⟩
    have C3 := C3.below g7
    have C5 := C5.below g7
    have s3 := s3.below g7
    have s5 := s5.below g7
    have o6 := o6.below g7
    have g7 : Below Y.heap.size Y w7 := g6.trans (g7.mono g6.size)
    generalize w6.heap.size = b8 at o7 ⊢
    clear g6
    go_wp2_with fail
    refine (eqChangeS_same _ _ cs n n n _ HN.out (by omega) o6.reads o7.reads).mono ?_
    rintro e w8 ⟨rfl, g8⟩
    have C3 := C3.below g8
    have C5 := C5.below g8
    have s3 := s3.below g8
    have s5 := s5.below g8
    have o8 := o6.below g8
    have g8 : Below Y.heap.size Y w8 := g7.trans (g8.mono g7.size)
    clear g7 o6 o7
    go_wp2_with fail
    refine (markChangeS_wide _ _ _ cs n n 1 _ HN.out hn (by omega) (by omega) o8).mono ?_
    rintro e w9 ⟨rfl, t9, _⟩
    have C3 := C3.turned t9 (.inl (by omega))
    have C5 := C5.turned t9 (.inr (by omega))
    have s3 := s3.turned t9 (.inl (by omega))
    have s5 := s5.turned t9 (.inr (by omega))
    have hs8 := g8.size
    have g9 : Below Y.heap.size Y w9 := g8.trans (t9.toBelow hs8 (by omega))
    obtain ⟨k9, hk9⟩ : ∃ k : Int, ((1 + 10 * n : Nat) : Int) = k := ⟨_, rfl⟩
    have hk9' : ¬ k9 < 0 := by omega
    rw [hk9]
    clear g8 o8 t9 hk9
    obtain ⟨x0, x1⟩ := C3
    obtain ⟨y0, y1⟩ := C5
    have hcon := eqChangesResult_same q a5 a3 L m c5' c3 w9 HM.out hm1 s5.reads s3.reads
    go_wp2_with (go_at_call 12; refine hcon.mono ?_)
    rintro e w10 ⟨rfl, g10⟩
    have C3 : RsC w10 b3 q a3 m c3 := RsC.below (w := w9) ⟨x0, x1⟩ g10
    have C5 : RsC w10 b5 q a5 m c5' := RsC.below (w := w9) ⟨y0, y1⟩ g10
    have s3 := s3.below g10
    have s5 := s5.below g10
    have g10 := g9.trans (g10.mono g9.size)
    clear g9 x0 x1 y0 y1 hcon
    obtain ⟨y0, y1⟩ := C5
    have hcon := markChangesResult_any q a5 b6 b5 L m c5' w10 HM.out hm1 s5
    obtain ⟨mm, hmm⟩ : ∃ mm : Int, mm = ((1 + 10 * m : Nat) : Int) := ⟨_, rfl⟩
    have hmm0 : ¬ mm < 0 := by omega
    have HMM : Hid (((1 + 10 * m : Nat) : Int) = mm) := hmm.symm
    rw [← hmm] at hcon
    clear hmm
    go_wp2_with (go_at_call 15; refine hcon.mono ?_)
    rintro e w11 ⟨rfl, t11, s5'⟩
    have C3 := C3.turned t11 (.inl (by omega))
    have C5 : RsC w11 b5 q a5 m c5' := RsC.turned (w := w10) ⟨y0, y1⟩ t11 (.inr (Nat.le_refl _))
    have s3 := s3.turned t11 (.inl (by omega))
    have hs10 := g10.size
    have g11 : Below Y.heap.size Y w11 := g10.trans (t11.toBelow hs10 (by omega))
    clear g10 t11 y0 y1 hcon s5
    obtain ⟨y0, y1⟩ := C5
    have hcon := heldChangesResult_any q a5 m c5' w11 hm1 s5'.reads
    rw [HMM.out] at hcon
    go_wp2_with (go_at_call 16; refine hcon.mono ?_)
    rintro e w12 ⟨rfl, g12⟩
    have C3 := C3.below g12
    have C5 : RsC w12 b5 q a5 m c5' := RsC.below (w := w11) ⟨y0, y1⟩ g12
    have s3 := s3.below g12
    have s5 := s5'.below g12
    have gB := g11.trans (g12.mono g11.size)
    clear g11 g12 y0 y1 hcon s5'
    go_upto_region 27 with (fail)
    have hbB : bx < w12.heap.size := Nat.lt_of_lt_of_le hbY gB.size
    go_cut [12] from 13 (fun s6 wc => ∃ (ab : Nat) (p3 : Option Addr) (c3 lo hi : Nat), s6 = .pointer (some ⟨ab, 0, none⟩) ∧ Below w12.heap.size w12 wc ∧ RsC wc ab q p3 m c3 ∧ SlIn chE 10 lo hi wc p3 L ∧ w12.heap.size ≤ lo ∧ hi ≤ wc.heap.size ∧ w12.heap.size ≤ ab)
    case first =>
      clear C3 C5 s3 s5
      have H : LcS w12 bx (⟨c0, ⟨ct, ck, cv, cst⟩, c5, ⟨dt, dk, dv, dst⟩⟩ : Chg) w12.drew := ⟨HCx.out _ (gB.trans ((Below.refl _ w12).drew.mono gB.size)), (Below.refl _ w12).drew⟩
      refine wp_region_held_drew (S := LcS w12 bx (⟨c0, ⟨ct, ck, cv, cst⟩, c5, ⟨dt, dk, dv, dst⟩⟩ : Chg)) (by kernel_rfl) H (fun hHeld => ?_)
      have hDV : w12.heap.size ≤ w12.drew.heap.size := Nat.le_refl _
      generalize w12.drew = D0 at hHeld hDV ⊢
      clear H
      have HT : Hid (∀ V, Below w12.heap.size w12 V → Calls Try.prog 43 #[.slice a n c] V fun e w' => e = .returned (.slice (some ⟨V.heap.size, 0, none⟩) n n) ∧ Below V.heap.size V w' ∧ Rs chE 10 w' (some ⟨V.heap.size, 0, none⟩) cs) := fun V hV => HTo.out V (gB.trans (hV.mono gB.size))
      clear gB
      refine wpAnyH_take (i := 0) (v := ?v3) rfl (by kernel_rfl) (by kernel_rfl) (by kernel_rfl) (fun _ _ _ h => h) (Or.inl ⟨by kernel_rfl, ?h3⟩) hHeld ?_
      case h3 => intro u hSw; clear hSw; go_simp; try with_reducible rfl
      try simp only [List.getElem_toArray]
      try simp only [List.getElem_cons_succ]
      try simp only [List.getElem_cons_zero]
      try simp only [Act.put]
      try simp only [List.setIfInBounds_toArray]
      try simp only [List.set]
      refine wpAnyH_take (i := 2) (v := ?v4) rfl (by kernel_rfl) (by kernel_rfl) (by kernel_rfl) (fun _ _ _ h => h) (Or.inl ⟨by kernel_rfl, ?h4⟩) hHeld ?_
      case h4 => intro u hSw; (obtain ⟨z0, z1, z2, z3, z4, z5, z6, z7, z8, z9⟩ := hSw.c); dsimp only at z0 z1 z2 z3 z4 z5 z6 z7 z8 z9; clear hSw; go_simp; try with_reducible rfl
      try simp only [List.getElem_toArray]
      try simp only [List.getElem_cons_succ]
      try simp only [List.getElem_cons_zero]
      try simp only [Act.put]
      try simp only [List.setIfInBounds_toArray]
      try simp only [List.set]
      refine wpAnyH_ready (rs := [1, 5]) (by kernel_rfl) (by simp) ?_
      refine AllReadyH.cons rfl (fun K hK => ?_) (AllReadyH.cons rfl (fun K hK => ?_) AllReadyH.nil)
      · go_simp
        go_wp2_with (go_at_call 43; refine (HT.out _ hHeld.g).mono ?_; rintro e U14 ⟨rfl, gg, r1⟩)
        refine hK.out _ _ (hHeld.up gg) (fun hHeld => ?_)
        clear hK K
        have hDV' : w12.heap.size ≤ U14.heap.size := Nat.le_trans hDV gg.size
        clear gg hDV
        have hDV := hDV'
        clear hDV'
        generalize D0.heap.size = lb at r1 ⊢
        try simp only [Act.put]
        try simp only [List.setIfInBounds_toArray]
        try simp only [List.set]
        refine wpAnyH_ready (rs := [3, 5]) (by kernel_rfl) (by simp) ?_
        refine AllReadyH.cons rfl (fun K hK => ?_) (AllReadyH.cons rfl (fun K hK => ?_) AllReadyH.nil)
        · go_simp
          go_wp2_with (go_at_call 44; refine (toChange_any c0 ct ck cv cst c5 dt dk dv dst _).mono ?_; rintro e U15 ⟨rfl, gg⟩)
          refine hK.out _ _ (hHeld.up gg) (fun hHeld => ?_)
          clear hK K
          have r1 := r1.below gg (Nat.le_refl _)
          have hDV' : w12.heap.size ≤ U15.heap.size := Nat.le_trans hDV gg.size
          clear gg hDV
          have hDV := hDV'
          clear hDV'
          try simp only [Act.put]
          try simp only [List.setIfInBounds_toArray]
          try simp only [List.set]
          refine wpAnyH_ready (rs := [4, 5]) (by kernel_rfl) (by simp) ?_
          refine AllReadyH.cons rfl (fun K hK => ?_) (AllReadyH.cons rfl (fun K hK => ?_) AllReadyH.nil)
          · go_simp
            go_wp2_with (go_at_call 45; refine (HImpl.out _ _ r1).mono ?_; rintro e U16 ⟨p3, c3, rfl, gg, y3⟩)
            refine hK.out _ _ (hHeld.up gg) (fun hHeld => ?_)
            clear hK K
            have hDV' : w12.heap.size ≤ U16.heap.size := Nat.le_trans hDV gg.size
            have hlo : w12.heap.size ≤ U15.heap.size := hDV
            obtain ⟨lo, hlo'⟩ : ∃ lo, U15.heap.size = lo := ⟨_, rfl⟩
            obtain ⟨hi, hhi'⟩ : ∃ hi, U16.heap.size = hi := ⟨_, rfl⟩
            have hle : hi ≤ U16.heap.size := Nat.le_of_eq hhi'.symm
            rw [hlo', hhi'] at y3
            rw [hlo'] at hlo
            clear hlo' hhi'
            clear gg hDV
            have hDV := hDV'
            clear hDV'
            try simp only [Act.put]
            try simp only [List.setIfInBounds_toArray]
            try simp only [List.set]
            refine wpAnyH_ready (rs := [5]) (by kernel_rfl) (by simp) ?_
            refine AllReadyH.cons rfl (fun K hK => ?_) AllReadyH.nil
            have gg : Below U16.heap.size U16 (U16.alloc (.cells #[.int .i64 0, .slice none 0 0] 26)) := by go_grown
            have hab : w12.heap.size ≤ U16.heap.size := hDV
            have hB : Rc2 (U16.alloc (.cells #[.int .i64 0, .slice none 0 0] 26)) U16.heap.size := ⟨by simp [go_sem], by simp [go_sem], by simp [go_sem], by simp [go_sem]⟩
            have hpos : hi ≤ U16.heap.size ∨ U16.heap.size + 1 ≤ lo := .inl hle
            have hle : hi ≤ (U16.alloc (.cells #[.int .i64 0, .slice none 0 0] 26)).heap.size := Nat.le_trans hle gg.size
            have hDV : w12.heap.size ≤ (U16.alloc (.cells #[.int .i64 0, .slice none 0 0] 26)).heap.size := Nat.le_trans hDV gg.size
            go_simp
            refine hK.out _ _ (hHeld.up gg) (fun hHeld => ?_)
            clear hK K
            have y3 := y3.below gg
            clear gg
            generalize U16.alloc (.cells #[.int .i64 0, .slice none 0 0] 26) = U17 at hHeld hB hDV y3 hle ⊢
            generalize U16.heap.size = ab at hB hab hpos ⊢
            try simp only [Act.put]
            try simp only [List.setIfInBounds_toArray]
            try simp only [List.set]
            have T : Turned ab (ab + 1) U17 ((U17.setCell ⟨ab, 0, none⟩ (.int .i64 q)).setCell ⟨ab, 1, none⟩ (.slice p3 m c3)) := ((Turned.refl _ _ U17).setCell (p := ⟨ab, 0, none⟩) (Nat.le_refl _) (Nat.lt_succ_self _) _).setCell (p := ⟨ab, 1, none⟩) (Nat.le_refl _) (Nat.lt_succ_self _) _
            obtain ⟨a0, a1, f0, f1⟩ := hB
            refine wpAnyH_ready (rs := [6]) (by kernel_rfl) (by simp) ?_
            refine AllReadyH.cons rfl (fun K hK => ?_) AllReadyH.nil
            go_simp
            refine hK.out _ _ (hHeld.turned T hab hDV hbB) (fun hHeld => ?_)
            clear hK K
            try simp only [Act.put]
            try simp only [List.setIfInBounds_toArray]
            try simp only [List.set]
            refine wpAnyH_done (by kernel_rfl) ?_ _
            have b3 : RsC ((U17.setCell ⟨ab, 0, none⟩ (.int .i64 q)).setCell ⟨ab, 1, none⟩ (.slice p3 m c3)) ab q p3 m c3 := ⟨by simp [go_sem, a0], by simp [go_sem, a1]⟩
            have y3 := y3.turned T hpos
            have hsz : hi ≤ ((U17.setCell ⟨ab, 0, none⟩ (.int .i64 q)).setCell ⟨ab, 1, none⟩ (.slice p3 m c3)).heap.size := by rw [World.size_setCell, World.size_setCell]; exact hle
            go_wp2_with fail
            go_meet
            case rel => exact ⟨ab, p3, c3, lo, hi, rfl, hHeld.g, b3, y3, hlo, hsz, hab⟩
          · have gg : Below U15.heap.size U15 (U15.alloc (.cells #[.int .i64 0, .slice none 0 0] 26)) := by go_grown
            have hab : w12.heap.size ≤ U15.heap.size := hDV
            have hB : Rc2 (U15.alloc (.cells #[.int .i64 0, .slice none 0 0] 26)) U15.heap.size := ⟨by simp [go_sem], by simp [go_sem], by simp [go_sem], by simp [go_sem]⟩
            have hDV : w12.heap.size ≤ (U15.alloc (.cells #[.int .i64 0, .slice none 0 0] 26)).heap.size := Nat.le_trans hDV gg.size
            go_simp
            refine hK.out _ _ (hHeld.up gg) (fun hHeld => ?_)
            clear hK K
            have r1 := r1.below gg (Nat.le_refl _)
            clear gg
            generalize U15.alloc (.cells #[.int .i64 0, .slice none 0 0] 26) = U18 at hHeld hB hDV r1 ⊢
            generalize U15.heap.size = ab at hB hab  ⊢
            try simp only [Act.put]
            try simp only [List.setIfInBounds_toArray]
            try simp only [List.set]
            refine wpAnyH_ready (rs := [4]) (by kernel_rfl) (by simp) ?_
            refine AllReadyH.cons rfl (fun K hK => ?_) AllReadyH.nil
            have hAb : ab < U18.heap.size := hB.lt
            go_simp
            go_wp2_with (go_at_call 45; refine (HImpl.out _ _ r1).mono ?_; rintro e U19 ⟨p3, c3, rfl, gg, y3⟩)
            refine hK.out _ _ (hHeld.up gg) (fun hHeld => ?_)
            clear hK K
            have hB := hB.below gg
            have hDV' : w12.heap.size ≤ U19.heap.size := Nat.le_trans hDV gg.size
            have hlo : w12.heap.size ≤ U18.heap.size := hDV
            have hpos : U19.heap.size ≤ ab ∨ ab + 1 ≤ U18.heap.size := .inr hAb
            obtain ⟨lo, hlo'⟩ : ∃ lo, U18.heap.size = lo := ⟨_, rfl⟩
            obtain ⟨hi, hhi'⟩ : ∃ hi, U19.heap.size = hi := ⟨_, rfl⟩
            have hle : hi ≤ U19.heap.size := Nat.le_of_eq hhi'.symm
            rw [hlo', hhi'] at y3
            rw [hlo'] at hlo
            rw [hlo', hhi'] at hpos
            clear hlo' hhi'
            clear gg hDV
            have hDV := hDV'
            clear hDV'
            try simp only [Act.put]
            try simp only [List.setIfInBounds_toArray]
            try simp only [List.set]
            have T : Turned ab (ab + 1) U19 ((U19.setCell ⟨ab, 0, none⟩ (.int .i64 q)).setCell ⟨ab, 1, none⟩ (.slice p3 m c3)) := ((Turned.refl _ _ U19).setCell (p := ⟨ab, 0, none⟩) (Nat.le_refl _) (Nat.lt_succ_self _) _).setCell (p := ⟨ab, 1, none⟩) (Nat.le_refl _) (Nat.lt_succ_self _) _
            obtain ⟨a0, a1, f0, f1⟩ := hB
            refine wpAnyH_ready (rs := [6]) (by kernel_rfl) (by simp) ?_
            refine AllReadyH.cons rfl (fun K hK => ?_) AllReadyH.nil
            go_simp
            refine hK.out _ _ (hHeld.turned T hab hDV hbB) (fun hHeld => ?_)
            clear hK K
            try simp only [Act.put]
            try simp only [List.setIfInBounds_toArray]
            try simp only [List.set]
            refine wpAnyH_done (by kernel_rfl) ?_ _
            have b3 : RsC ((U19.setCell ⟨ab, 0, none⟩ (.int .i64 q)).setCell ⟨ab, 1, none⟩ (.slice p3 m c3)) ab q p3 m c3 := ⟨by simp [go_sem, a0], by simp [go_sem, a1]⟩
            have y3 := y3.turned T hpos
            have hsz : hi ≤ ((U19.setCell ⟨ab, 0, none⟩ (.int .i64 q)).setCell ⟨ab, 1, none⟩ (.slice p3 m c3)).heap.size := by rw [World.size_setCell, World.size_setCell]; exact hle
            go_wp2_with fail
            go_meet
            case rel => exact ⟨ab, p3, c3, lo, hi, rfl, hHeld.g, b3, y3, hlo, hsz, hab⟩
        · have gg : Below U14.heap.size U14 (U14.alloc (.cells #[.int .i64 0, .slice none 0 0] 26)) := by go_grown
          have hab : w12.heap.size ≤ U14.heap.size := hDV
          have hB : Rc2 (U14.alloc (.cells #[.int .i64 0, .slice none 0 0] 26)) U14.heap.size := ⟨by simp [go_sem], by simp [go_sem], by simp [go_sem], by simp [go_sem]⟩
          have hDV : w12.heap.size ≤ (U14.alloc (.cells #[.int .i64 0, .slice none 0 0] 26)).heap.size := Nat.le_trans hDV gg.size
          go_simp
          refine hK.out _ _ (hHeld.up gg) (fun hHeld => ?_)
          clear hK K
          have r1 := r1.below gg (Nat.le_refl _)
          clear gg
          generalize U14.alloc (.cells #[.int .i64 0, .slice none 0 0] 26) = U20 at hHeld hB hDV r1 ⊢
          generalize U14.heap.size = ab at hB hab  ⊢
          try simp only [Act.put]
          try simp only [List.setIfInBounds_toArray]
          try simp only [List.set]
          refine wpAnyH_ready (rs := [3]) (by kernel_rfl) (by simp) ?_
          refine AllReadyH.cons rfl (fun K hK => ?_) AllReadyH.nil
          go_simp
          go_wp2_with (go_at_call 44; refine (toChange_any c0 ct ck cv cst c5 dt dk dv dst _).mono ?_; rintro e U21 ⟨rfl, gg⟩)
          refine hK.out _ _ (hHeld.up gg) (fun hHeld => ?_)
          clear hK K
          have r1 := r1.below gg (Nat.le_refl _)
          have hB := hB.below gg
          have hDV' : w12.heap.size ≤ U21.heap.size := Nat.le_trans hDV gg.size
          clear gg hDV
          have hDV := hDV'
          clear hDV'
          try simp only [Act.put]
          try simp only [List.setIfInBounds_toArray]
          try simp only [List.set]
          refine wpAnyH_ready (rs := [4]) (by kernel_rfl) (by simp) ?_
          refine AllReadyH.cons rfl (fun K hK => ?_) AllReadyH.nil
          have hAb : ab < U21.heap.size := hB.lt
          go_simp
          go_wp2_with (go_at_call 45; refine (HImpl.out _ _ r1).mono ?_; rintro e U22 ⟨p3, c3, rfl, gg, y3⟩)
          refine hK.out _ _ (hHeld.up gg) (fun hHeld => ?_)
          clear hK K
          have hB := hB.below gg
          have hDV' : w12.heap.size ≤ U22.heap.size := Nat.le_trans hDV gg.size
          have hlo : w12.heap.size ≤ U21.heap.size := hDV
          have hpos : U22.heap.size ≤ ab ∨ ab + 1 ≤ U21.heap.size := .inr hAb
          obtain ⟨lo, hlo'⟩ : ∃ lo, U21.heap.size = lo := ⟨_, rfl⟩
          obtain ⟨hi, hhi'⟩ : ∃ hi, U22.heap.size = hi := ⟨_, rfl⟩
          have hle : hi ≤ U22.heap.size := Nat.le_of_eq hhi'.symm
          rw [hlo', hhi'] at y3
          rw [hlo'] at hlo
          rw [hlo', hhi'] at hpos
          clear hlo' hhi'
          clear gg hDV
          have hDV := hDV'
          clear hDV'
          try simp only [Act.put]
          try simp only [List.setIfInBounds_toArray]
          try simp only [List.set]
          have T : Turned ab (ab + 1) U22 ((U22.setCell ⟨ab, 0, none⟩ (.int .i64 q)).setCell ⟨ab, 1, none⟩ (.slice p3 m c3)) := ((Turned.refl _ _ U22).setCell (p := ⟨ab, 0, none⟩) (Nat.le_refl _) (Nat.lt_succ_self _) _).setCell (p := ⟨ab, 1, none⟩) (Nat.le_refl _) (Nat.lt_succ_self _) _
          obtain ⟨a0, a1, f0, f1⟩ := hB
          refine wpAnyH_ready (rs := [6]) (by kernel_rfl) (by simp) ?_
          refine AllReadyH.cons rfl (fun K hK => ?_) AllReadyH.nil
          go_simp
          refine hK.out _ _ (hHeld.turned T hab hDV hbB) (fun hHeld => ?_)
          clear hK K
          try simp only [Act.put]
          try simp only [List.setIfInBounds_toArray]
          try simp only [List.set]
          refine wpAnyH_done (by kernel_rfl) ?_ _
          have b3 : RsC ((U22.setCell ⟨ab, 0, none⟩ (.int .i64 q)).setCell ⟨ab, 1, none⟩ (.slice p3 m c3)) ab q p3 m c3 := ⟨by simp [go_sem, a0], by simp [go_sem, a1]⟩
          have y3 := y3.turned T hpos
          have hsz : hi ≤ ((U22.setCell ⟨ab, 0, none⟩ (.int .i64 q)).setCell ⟨ab, 1, none⟩ (.slice p3 m c3)).heap.size := by rw [World.size_setCell, World.size_setCell]; exact hle
          go_wp2_with fail
          go_meet
          case rel => exact ⟨ab, p3, c3, lo, hi, rfl, hHeld.g, b3, y3, hlo, hsz, hab⟩
      · have gg : Below D0.heap.size D0 (D0.alloc (.cells #[.int .i64 0, .slice none 0 0] 26)) := by go_grown
        have hab : w12.heap.size ≤ D0.heap.size := hDV
        have hB : Rc2 (D0.alloc (.cells #[.int .i64 0, .slice none 0 0] 26)) D0.heap.size := ⟨by simp [go_sem], by simp [go_sem], by simp [go_sem], by simp [go_sem]⟩
        have hDV : w12.heap.size ≤ (D0.alloc (.cells #[.int .i64 0, .slice none 0 0] 26)).heap.size := Nat.le_trans hDV gg.size
        go_simp
        refine hK.out _ _ (hHeld.up gg) (fun hHeld => ?_)
        clear hK K
        clear gg
        generalize D0.alloc (.cells #[.int .i64 0, .slice none 0 0] 26) = U23 at hHeld hB hDV ⊢
        generalize D0.heap.size = ab at hB hab  ⊢
        try simp only [Act.put]
        try simp only [List.setIfInBounds_toArray]
        try simp only [List.set]
        refine wpAnyH_ready (rs := [1]) (by kernel_rfl) (by simp) ?_
        refine AllReadyH.cons rfl (fun K hK => ?_) AllReadyH.nil
        go_simp
        go_wp2_with (go_at_call 43; refine (HT.out _ hHeld.g).mono ?_; rintro e U24 ⟨rfl, gg, r1⟩)
        refine hK.out _ _ (hHeld.up gg) (fun hHeld => ?_)
        clear hK K
        have hB := hB.below gg
        have hDV' : w12.heap.size ≤ U24.heap.size := Nat.le_trans hDV gg.size
        clear gg hDV
        have hDV := hDV'
        clear hDV'
        generalize U23.heap.size = lb at r1 ⊢
        try simp only [Act.put]
        try simp only [List.setIfInBounds_toArray]
        try simp only [List.set]
        refine wpAnyH_ready (rs := [3]) (by kernel_rfl) (by simp) ?_
        refine AllReadyH.cons rfl (fun K hK => ?_) AllReadyH.nil
        go_simp
        go_wp2_with (go_at_call 44; refine (toChange_any c0 ct ck cv cst c5 dt dk dv dst _).mono ?_; rintro e U25 ⟨rfl, gg⟩)
        refine hK.out _ _ (hHeld.up gg) (fun hHeld => ?_)
        clear hK K
        have r1 := r1.below gg (Nat.le_refl _)
        have hB := hB.below gg
        have hDV' : w12.heap.size ≤ U25.heap.size := Nat.le_trans hDV gg.size
        clear gg hDV
        have hDV := hDV'
        clear hDV'
        try simp only [Act.put]
        try simp only [List.setIfInBounds_toArray]
        try simp only [List.set]
        refine wpAnyH_ready (rs := [4]) (by kernel_rfl) (by simp) ?_
        refine AllReadyH.cons rfl (fun K hK => ?_) AllReadyH.nil
        have hAb : ab < U25.heap.size := hB.lt
        go_simp
        go_wp2_with (go_at_call 45; refine (HImpl.out _ _ r1).mono ?_; rintro e U26 ⟨p3, c3, rfl, gg, y3⟩)
        refine hK.out _ _ (hHeld.up gg) (fun hHeld => ?_)
        clear hK K
        have hB := hB.below gg
        have hDV' : w12.heap.size ≤ U26.heap.size := Nat.le_trans hDV gg.size
        have hlo : w12.heap.size ≤ U25.heap.size := hDV
        have hpos : U26.heap.size ≤ ab ∨ ab + 1 ≤ U25.heap.size := .inr hAb
        obtain ⟨lo, hlo'⟩ : ∃ lo, U25.heap.size = lo := ⟨_, rfl⟩
        obtain ⟨hi, hhi'⟩ : ∃ hi, U26.heap.size = hi := ⟨_, rfl⟩
        have hle : hi ≤ U26.heap.size := Nat.le_of_eq hhi'.symm
        rw [hlo', hhi'] at y3
        rw [hlo'] at hlo
        rw [hlo', hhi'] at hpos
        clear hlo' hhi'
        clear gg hDV
        have hDV := hDV'
        clear hDV'
        try simp only [Act.put]
        try simp only [List.setIfInBounds_toArray]
        try simp only [List.set]
        have T : Turned ab (ab + 1) U26 ((U26.setCell ⟨ab, 0, none⟩ (.int .i64 q)).setCell ⟨ab, 1, none⟩ (.slice p3 m c3)) := ((Turned.refl _ _ U26).setCell (p := ⟨ab, 0, none⟩) (Nat.le_refl _) (Nat.lt_succ_self _) _).setCell (p := ⟨ab, 1, none⟩) (Nat.le_refl _) (Nat.lt_succ_self _) _
        obtain ⟨a0, a1, f0, f1⟩ := hB
        refine wpAnyH_ready (rs := [6]) (by kernel_rfl) (by simp) ?_
        refine AllReadyH.cons rfl (fun K hK => ?_) AllReadyH.nil
        go_simp
        refine hK.out _ _ (hHeld.turned T hab hDV hbB) (fun hHeld => ?_)
        clear hK K
        try simp only [Act.put]
        try simp only [List.setIfInBounds_toArray]
        try simp only [List.set]
        refine wpAnyH_done (by kernel_rfl) ?_ _
        have b3 : RsC ((U26.setCell ⟨ab, 0, none⟩ (.int .i64 q)).setCell ⟨ab, 1, none⟩ (.slice p3 m c3)) ab q p3 m c3 := ⟨by simp [go_sem, a0], by simp [go_sem, a1]⟩
        have y3 := y3.turned T hpos
        have hsz : hi ≤ ((U26.setCell ⟨ab, 0, none⟩ (.int .i64 q)).setCell ⟨ab, 1, none⟩ (.slice p3 m c3)).heap.size := by rw [World.size_setCell, World.size_setCell]; exact hle
        go_wp2_with fail
        go_meet
        case rel => exact ⟨ab, p3, c3, lo, hi, rfl, hHeld.g, b3, y3, hlo, hsz, hab⟩
    case rest =>
      obtain ⟨b14, a14, c14, lo14, hi14, rfl, g14', C14, s14, -, -, -⟩ := hcut
      have C3 := C3.below g14'
      have C5 := C5.below g14'
      have s3 := s3.below g14'
      have s5 := s5.below g14'
      have g14 := gB.trans (g14'.mono gB.size)
      clear g14' gB hbB
      have hcon := eqChangesResult_same q a14 a3 L m c14 c3 wc HM.out hm1 s14.reads s3.reads
      obtain ⟨x0, x1⟩ := C3
      obtain ⟨z0, z1⟩ := C14
      go_wp2_with (go_at_call 12; refine hcon.mono ?_)
      rintro e w15 ⟨rfl, g15⟩
      have C5 := C5.below g15
      have s5 := s5.below g15
      have g15 := g14.trans (g15.mono g14.size)
      clear g14 x0 x1 z0 z1 hcon s14 s3
      obtain ⟨y0, y1⟩ := C5
      have hcon := heldChangesResult_any q a5 m c5' w15 hm1 s5.reads
      rw [HMM.out] at hcon
      go_wp2_with (go_at_call 16; refine hcon.mono ?_)
      rintro e w16 ⟨rfl, g16⟩
      have g16 := g15.trans (g16.mono g15.size)
      clear g15 hcon y0 y1
      go_wp2_with fail
      go_ret
      exact ⟨rfl, gY.trans (g16.mono gY.size)⟩

end Go.Proofs.Ytonngopnhpmjaaa
