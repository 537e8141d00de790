/-
  The model's DrawReadRecord and DrawPackRecord.
-/
import Derived.Test.YtcjkjenebnodbaaDoorSBnu
import Derived.Test.YtcjkjenebnodbaaDoorSLpk
import Derived.Test.YtcjkjenebnodbaaDoorSSan
import Derived.Laws.BitsAllLaws

namespace Go.Proofs.YtcjkjenebnodbaaDoor
open Go.RowKit
set_option linter.unusedVariables false

/-- Bytes that were drawn. -/
def DdPost (w : World) (e : Ending) (w' : World) : Prop := ∃ a ds c, e = .returned (.slice a (List.length ds) c) ∧ ds.length ≤ c ∧ c ≤ 9223372036854775807 ∧ Reads w' a ds ∧ (∀ z ∈ ds, (0 : Int) ≤ z ∧ z ≤ 255) ∧ ds.length ≤ 300 ∧ Below w.heap.size w w'
theorem srcBelow {b : Nat} {w V V' : World} (g : Below w.heap.size w V) (hb : w.heap.size ≤ b) (ht : Dr.Turned b (b + 1) V V') : Below w.heap.size w V' :=
  g.trans ⟨ht.os, ht.tape, ht.output, ht.size, fun k hk => ht.block k (Nat.lt_of_lt_of_le hk g.size) (by omega)⟩
theorem Gb.src {base b : Nat} {w w' : World} {v : Value} {xs : List Int} (h : Gb base w v xs) (ht : Dr.Turned b (b + 1) w w') (hb : b < base) : Gb base w' v xs := ownsRow_drTurned h ht hb
theorem Gb.setOne {base g n c i : Nat} {w : World} {xs : List Int} (h : Gb base w (.slice (some ⟨g, 0, none⟩) n c) xs) (hn : xs.length = n) (z : Int) : Gb base (w.setCell ⟨g, i, none⟩ (.int .u8 z)) (.slice (some ⟨g, 0, none⟩) n c) (xs.set i z) := by
  unfold Gb at h ⊢
  rw [hn] at h
  rw [List.length_set, hn, List.map_set]
  exact (World.ownsRow.stored h i _).1
theorem xor_small {x y : Int} (h1 : 0 ≤ x ∧ x ≤ 255) (h2 : 0 ≤ y ∧ y ≤ 255) : ∃ z, bits .xor .u8 x y = z ∧ 0 ≤ z ∧ z ≤ 255 := by
  have h := Nat.xor_lt_two_pow (n := 8) (x := x.toNat) (y := y.toNat) (by omega) (by omega)
  exact ⟨_, u8_xor x y h1.1 (by omega) h2.1 (by omega), by omega, by omega⟩

set_option maxRecDepth 20000 in
set_option maxHeartbeats 8000000 in
theorem drawReadRecord_any (a : Option Addr) (n c : Nat) (zs : List Int) (w : World) (rd : Dr.Reads w a zs) (hn : zs.length = n) (hm : n ≤ 1048576) (hz : ∀ z ∈ zs, 0 ≤ z ∧ z ≤ 255) :
    Calls Tryd.prog 6 #[.slice a n c] w fun e w' => DdPost w e w' := by
  go_enter Tryd.func6, Tryd.ntmps6
  go_upto_region 2 with (go_at_call 21; refine (Dr.l1Source_any a n c zs _ rd hn hm hz).mono ?_; rintro e w1 ⟨rfl, g1, hl1, hS⟩)
  clear rd hn hm hz
  have hwb : w.heap.size ≤ w.heap.size := Nat.le_refl _
  obtain ⟨b, hbb⟩ : ∃ b, w.heap.size = b := ⟨_, rfl⟩
  rw [hbb] at hS hl1
  simp only [hbb]
  have hwb : w.heap.size ≤ b := by omega
  have HB : Hid (w.heap.size = b) := hbb
  clear hbb
  go_upto_region 3 with (go_at_call 22; refine (l4Draw_any b a n c zs 0 _ hS (by omega)).mono ?_; rintro e w2 ⟨⟨k, tx, pg, aa, l, ec, P, A, C, Z, rfl, hOk, hRL, ht⟩, ⟨j, hj, hS⟩⟩)
  generalize hY : World.alloc w2 _ = Y
  have gY : Below w2.heap.size w2 Y := by rw [← hY]; go_grown
  have hRc : RcAt Y w2.heap.size k tx pg aa l ec := by rw [← hY]; exact ⟨by simp [go_sem], by simp [go_sem], by simp [go_sem], by simp [go_sem]⟩
  have g2 := srcBelow g1 hwb ht
  have hRn := hRL.reads.below gY (Nat.le_refl _)
  have hS := hS.below gY
  have g2 := g2.trans (gY.mono g2.size)
  have hbY : b < Y.heap.size := hS.lt
  generalize w2.heap.size = rb at hRc ⊢
  clear hY gY hRL ht g1
  have hpl : (packB k tx pg l P Z).length ≤ 255 := by rw [packB_len]; exact hOk.tot
  have HPb : Hid (∀ z ∈ packB k tx pg l P Z, 0 ≤ z ∧ z ≤ 255) := packB_bd hOk.few hOk.tot hOk.both
  have HP0 : Hid (7 ≤ (packB k tx pg l P Z).length) := by show _ ≤ _; rw [packB_len]; omega
  have hcp := l4PackG_any rb k tx pg aa l ec P A C Z Y hOk hRn hRc
  generalize packB k tx pg l P Z = B at hcp hpl HPb HP0
  go_wp2_with (go_at_call 23; refine hcp.mono ?_)
  rintro e w3 ⟨g, d, rfl, hd1, g3, _, hG⟩
  have hS := hS.below g3
  have g2 := g2.trans (g3.mono g2.size)
  generalize hbs : Y.heap.size = base at hG hbY
  have hbw : base ≤ w3.heap.size := by rw [← hbs]; exact g3.size
  clear hcp g3 hRn hRc hOk hbs
  go_wp2_with fail
  refine (Dr.l1Next_any b a n c zs j 3 _ hS (by omega) (by omega) (by omega)).mono ?_
  rintro e w4 ⟨⟨r, rfl, r0, r1⟩, ht, hS⟩
  have hG := hG.src ht hbY
  have g2 := srcBelow g2 hwb ht
  have hbw : base ≤ w4.heap.size := Nat.le_trans hbw ht.size
  clear ht
  obtain ⟨r', rfl⟩ : ∃ r' : Nat, r = r' := ⟨r.toNat, by omega⟩
  go_wp2_with fail
  refine (Dr.l1Some_any b a n c zs _ r' _ hS (by omega) (by omega)).mono ?_
  rintro e w5 ⟨u, rfl, ⟨xs, xl, xb, hu⟩, ht, hS⟩
  have hG := hG.src ht hbY
  have g2 := srcBelow g2 hwb ht
  have hbw : base ≤ w5.heap.size := Nat.le_trans hbw ht.size
  clear ht
  have hur : ∃ au cu, u = .slice au r' cu ∧ Reads w5 au xs := by
    have hu' : Gb w4.heap.size w5 u xs := by unfold Gb; rw [xl]; exact hu
    obtain ⟨au, cu, e, _, _, hb, _⟩ := hu'.shape
    rw [xl] at e
    exact ⟨au, cu, e, hb.reads⟩
  obtain ⟨au, cu, rfl, hux⟩ := hur
  clear hu
  go_wp2_with (at_builtin; refine wpList_append_bytes _ rfl _ _ rfl base _ B xs au r' cu rfl rfl xl hG hux (by omega) hbw ?_)
  intro v6 w6 hG6 hgr hat
  have hS := hS.low (Below.grown (Below.refl (b + 1) w5) hgr (by have := hS.lt; omega) (fun q e => by have := (World.ownsRow.lt hG q e).1; omega)) (Nat.lt_succ_self _)
  have g2 : Below w.heap.size w w6 := Below.grown g2 hgr g2.size (fun q e => by have := (World.ownsRow.lt hG q e).1; omega)
  obtain ⟨ds, hds⟩ : ∃ ds, B ++ xs = ds := ⟨_, rfl⟩
  have hdl : ds.length ≤ 260 ∧ 7 ≤ ds.length := by rw [← hds, List.length_append]; have := HP0.out; omega
  have HDb : Hid (∀ z ∈ ds, 0 ≤ z ∧ z ≤ 255) := fun z hz => by
    rw [← hds] at hz
    rcases List.mem_append.1 hz with h | h
    · exact HPb.out z h
    · exact xb z h
  rw [hds] at hG6
  obtain ⟨g6, c6, e6, hc6, hc62⟩ : ∃ g6 c6, v6 = .slice (some ⟨g6, 0, none⟩) ds.length c6 ∧ ds.length ≤ c6 ∧ c6 ≤ 9223372036854775807 := by
    have hml : maxLen = 9223372036854775807 := by decide
    rcases hG6.2 with ⟨_, h0⟩ | ⟨g6, cap, cur, e, _, _, h3, h4, _⟩
    · omega
    · exact ⟨g6, cap, e, h3, by omega⟩
  subst e6
  obtain ⟨m, hm⟩ : ∃ m, ds.length = m := ⟨_, rfl⟩
  rw [hm] at hG6 hdl hc6 ⊢
  have HM : Hid (ds.length = m) := hm
  obtain ⟨hm1, hm7⟩ := hdl
  clear hgr hat hG hux hds hm HPb HP0 hd1 hpl xl xb hbw
  go_wp2_with fail
  refine (Dr.l1Next_any b a n c zs _ 5 _ hS (by omega) (by omega) (by omega)).mono ?_
  rintro e w7 ⟨⟨q, rfl, q0, q1⟩, ht, hS⟩
  have hG6 := hG6.src ht hbY
  have g2 := srcBelow g2 hwb ht
  clear ht
  have hcase : q = 0 ∨ q = 1 ∨ 2 ≤ q := by omega
  rcases hcase with rfl | rfl | hq
  · go_upto_region 6 with (fail)
    have hS := hS.below (Below.refl _ w7).drew
    have hG6 := hG6.grown (Below.refl _ w7).drew
    have g2 := g2.drew
    refine wp_region_held_drew (S := fun V => Below w.heap.size w V) (by kernel_rfl) g2 (fun hHeld => ?_)
    generalize w7.drew = V at hS hG6 g2 hHeld ⊢
    refine wpAnyH_take (i := 0) (v := ?v1) rfl (by kernel_rfl) (by kernel_rfl) (by kernel_rfl) (fun _ _ _ h => h) (Or.inl ⟨by kernel_rfl, ?h1⟩) hHeld ?_
    case h1 => intro u hSw; (try dsimp only at hSw); go_simp; try with_reducible rfl
    try simp only [List.getElem_toArray]
    try simp only [List.getElem_cons_succ]
    try simp only [List.getElem_cons_zero]
    try simp only [Act.put]
    try simp only [List.setIfInBounds_toArray]
    try simp only [List.set]
    refine wpAnyH_take (i := 1) (v := ?v2) rfl (by kernel_rfl) (by kernel_rfl) (by kernel_rfl) (fun _ _ _ h => h) (Or.inl ⟨by kernel_rfl, ?h2⟩) hHeld ?_
    case h2 => intro u hSw; (try dsimp only at hSw); go_simp; try with_reducible rfl
    try simp only [List.getElem_toArray]
    try simp only [List.getElem_cons_succ]
    try simp only [List.getElem_cons_zero]
    try simp only [Act.put]
    try simp only [List.setIfInBounds_toArray]
    try simp only [List.set]
    refine wpAnyH_take (i := 2) (v := ?v3) rfl (by kernel_rfl) (by kernel_rfl) (by kernel_rfl) (fun _ _ _ h => h) (Or.inl ⟨by kernel_rfl, ?h3⟩) hHeld ?_
    case h3 => intro u hSw; (try dsimp only at hSw); go_simp; try with_reducible rfl
    try simp only [List.getElem_toArray]
    try simp only [List.getElem_cons_succ]
    try simp only [List.getElem_cons_zero]
    try simp only [Act.put]
    try simp only [List.setIfInBounds_toArray]
    try simp only [List.set]
    refine wpAnyH_take (i := 3) (v := ?v4) rfl (by kernel_rfl) (by kernel_rfl) (by kernel_rfl) (fun _ _ _ h => h) (Or.inl ⟨by kernel_rfl, ?h4⟩) hHeld ?_
    case h4 => intro u hSw; (try dsimp only at hSw); go_simp; try with_reducible rfl
    try simp only [List.getElem_toArray]
    try simp only [List.getElem_cons_succ]
    try simp only [List.getElem_cons_zero]
    try simp only [Act.put]
    try simp only [List.setIfInBounds_toArray]
    try simp only [List.set]
    refine wpAnyH_take (i := 7) (v := ?v5) rfl (by kernel_rfl) (by kernel_rfl) (by kernel_rfl) (fun _ _ _ h => h) (Or.inl ⟨by kernel_rfl, ?h5⟩) hHeld ?_
    case h5 => intro u hSw; (try dsimp only at hSw); go_simp; try with_reducible rfl
    try simp only [List.getElem_toArray]
    try simp only [List.getElem_cons_succ]
    try simp only [List.getElem_cons_zero]
    try simp only [Act.put]
    try simp only [List.setIfInBounds_toArray]
    try simp only [List.set]
    refine wpAnyH_ready (rs := [4]) (by kernel_rfl) (by simp) ?_
    refine AllReadyH.cons rfl (fun K hK => ?_) AllReadyH.nil
    go_simp
    go_wp2_with (go_at_call 25; refine (Dr.l1Next_any b a n c zs _ m _ hS (by omega) (by omega) (by omega)).mono ?_; rintro e w8 ⟨⟨ix, rfl, i0, i1⟩, ht, hS⟩)
    have hG6 := hG6.src ht hbY
    have g2 := srcBelow g2 hwb ht
    clear ht
    refine hK.out _ _ g2 (fun hHeld => ?_)
    clear hK K
    obtain ⟨ix', rfl⟩ : ∃ ix' : Nat, ix = ix' := ⟨ix.toNat, by omega⟩
    have hixm : ix' < m := by omega
    obtain ⟨zb, hzb⟩ : ∃ zb, ds.getD ix' 0 = zb := ⟨_, rfl⟩
    have hzbb : 0 ≤ zb ∧ zb ≤ 255 := by
      rw [← hzb]
      have hl : ix' < ds.length := by rw [HM.out]; exact hixm
      simp only [List.getD, List.getElem?_eq_getElem hl, Option.getD_some]
      exact HDb.out _ (List.getElem_mem hl)
    have HCell : Hid (∀ W, Gb base W (.slice (some ⟨g6, 0, none⟩) m c6) ds → W.cell? ⟨g6, ix', none⟩ = some (.int .u8 zb) ∧ W.frozen? ⟨g6, ix', none⟩ = false) := fun W h => by
      have h' : W.ownsRow base 5 1 (.slice (some ⟨g6, 0, none⟩) m c6) m (ds.map (Value.int .u8)) := by unfold Gb at h; rw [HM.out] at h; exact h
      refine ⟨?_, h'.frozenAt _⟩
      rw [h'.cellAt ix' (by omega)]
      have hl : ix' < ds.length := by rw [HM.out]; exact hixm
      rw [← hzb]
      simp [List.getD, hl]
    clear hzb
    try simp only [Act.put]
    try simp only [List.setIfInBounds_toArray]
    try simp only [List.set]
    refine wpAnyH_take (i := 5) (v := ?v6) rfl (by kernel_rfl) (by kernel_rfl) (by kernel_rfl) (fun _ _ _ h => h) (Or.inl ⟨by kernel_rfl, ?h6⟩) hHeld ?_
    case h6 => intro u hSw; (try dsimp only at hSw); go_simp; try with_reducible rfl
    try simp only [List.getElem_toArray]
    try simp only [List.getElem_cons_succ]
    try simp only [List.getElem_cons_zero]
    try simp only [Act.put]
    try simp only [List.setIfInBounds_toArray]
    try simp only [List.set]
    refine wpAnyH_ready (rs := [6, 8]) (by kernel_rfl) (by simp) ?_
    refine AllReadyH.cons rfl (fun K hK => ?_) (AllReadyH.cons rfl (fun K hK => ?_) AllReadyH.nil)
    ·
      obtain ⟨q0, q1⟩ := HCell.out _ hG6
      go_simp
      go_wp2_with fail
      refine hK.out _ _ g2 (fun hHeld => ?_)
      clear hK K q0 q1
      try simp only [Act.put]
      try simp only [List.setIfInBounds_toArray]
      try simp only [List.set]
      refine wpAnyH_ready (rs := [8]) (by kernel_rfl) (by simp) ?_
      refine AllReadyH.cons rfl (fun K hK => ?_) AllReadyH.nil
      go_simp
      go_wp2_with (go_at_call 25; refine (Dr.l1Next_any b a n c zs _ 255 _ hS (by omega) (by omega) (by omega)).mono ?_; rintro e w9 ⟨⟨yx, rfl, y0, y1⟩, ht, hS⟩)
      have hG6 := hG6.src ht hbY
      have g2 := srcBelow g2 hwb ht
      clear ht
      refine hK.out _ _ g2 (fun hHeld => ?_)
      clear hK K
      have hyw : IntKind.i64.wrap (1 + yx) = 1 + yx := by simp [IntKind.wrap, IntKind.bits, IntKind.signed]; omega
      have hyc : IntKind.u8.wrap (1 + yx) = 1 + yx := by simp [IntKind.wrap, IntKind.bits, IntKind.signed]; omega
      obtain ⟨zx, hzx, hzx0, hzx1⟩ := xor_small hzbb (show 0 ≤ 1 + yx ∧ 1 + yx ≤ 255 by omega)
      try simp only [Act.put]
      try simp only [List.setIfInBounds_toArray]
      try simp only [List.set]
      refine wpAnyH_take (i := 9) (v := ?v7) rfl (by kernel_rfl) (by kernel_rfl) (by kernel_rfl) (fun _ _ _ h => h) (Or.inl ⟨by kernel_rfl, ?h7⟩) hHeld ?_
      case h7 => intro u hSw; (try dsimp only at hSw); go_simp; try with_reducible rfl
      try simp only [List.getElem_toArray]
      try simp only [List.getElem_cons_succ]
      try simp only [List.getElem_cons_zero]
      try simp only [Act.put]
      try simp only [List.setIfInBounds_toArray]
      try simp only [List.set]
      refine wpAnyH_take (i := 10) (v := ?v8) rfl (by kernel_rfl) (by kernel_rfl) (by kernel_rfl) (fun _ _ _ h => h) (Or.inl ⟨by kernel_rfl, ?h8⟩) hHeld ?_
      case h8 => intro u hSw; (try dsimp only at hSw); go_simp; try with_reducible rfl
      try simp only [List.getElem_toArray]
      try simp only [List.getElem_cons_succ]
      try simp only [List.getElem_cons_zero]
      try simp only [Act.put]
      try simp only [List.setIfInBounds_toArray]
      try simp only [List.set]
      refine wpAnyH_take (i := 11) (v := ?v9) rfl (by kernel_rfl) (by kernel_rfl) (by kernel_rfl) (fun _ _ _ h => h) (Or.inl ⟨by kernel_rfl, ?h9⟩) hHeld ?_
      case h9 => intro u hSw; (try dsimp only at hSw); go_simp; try with_reducible rfl
      try simp only [List.getElem_toArray]
      try simp only [List.getElem_cons_succ]
      try simp only [List.getElem_cons_zero]
      try simp only [Act.put]
      try simp only [List.setIfInBounds_toArray]
      try simp only [List.set]
      refine wpAnyH_take (i := 12) (v := ?v10) rfl (by kernel_rfl) (by kernel_rfl) (by kernel_rfl) (fun _ _ _ h => h) (Or.inl ⟨by kernel_rfl, ?h10⟩) hHeld ?_
      case h10 => intro u hSw; (try dsimp only at hSw); go_simp; try with_reducible rfl
      try simp only [List.getElem_toArray]
      try simp only [List.getElem_cons_succ]
      try simp only [List.getElem_cons_zero]
      try simp only [Act.put]
      try simp only [List.setIfInBounds_toArray]
      try simp only [List.set]
      refine wpAnyH_ready (rs := [13]) (by kernel_rfl) (by simp) ?_
      refine AllReadyH.cons rfl (fun K hK => ?_) AllReadyH.nil
      obtain ⟨q0, q1⟩ := HCell.out _ hG6
      have hN := hG6.setOne (i := ix') HM.out zx
      have gN : Below w.heap.size w (w9.setCell ⟨g6, ix', none⟩ (.int .u8 zx)) := g2.setCell (by have := (World.ownsRow.lt hG6 g6 rfl).1; simp only; omega) _
      have HF : Hid (DdPost w (.returned (.slice (some ⟨g6, 0, none⟩) m c6)) (w9.setCell ⟨g6, ix', none⟩ (.int .u8 zx))) := by
        obtain ⟨pa, pc, pe, _, _, pb, _⟩ := hN.shape
        simp only [Value.slice.injEq] at pe
        refine ⟨some ⟨g6, 0, none⟩, ds.set ix' zx, c6, by rw [List.length_set, HM.out], by rw [List.length_set, HM.out]; exact hc6, hc62, by rw [pe.1]; exact pb.reads, fun z hz => ?_, by rw [List.length_set, HM.out]; omega, gN⟩
        rcases List.mem_or_eq_of_mem_set hz with h | h
        · exact HDb.out z h
        · rw [h]; exact ⟨hzx0, hzx1⟩
      go_simp
      go_wp2_with fail
      refine hK.out _ _ gN (fun hHeld => ?_)
      clear hK K q0 q1 hN gN hG6 hS g2
      try simp only [Act.put]
      try simp only [List.setIfInBounds_toArray]
      try simp only [List.set]
      refine wpAnyH_done (by kernel_rfl) ?_ _
      clear hHeld
      go_wp2_with fail
      go_ret
      exact HF.out
    ·
      go_simp
      go_wp2_with (go_at_call 25; refine (Dr.l1Next_any b a n c zs _ 255 _ hS (by omega) (by omega) (by omega)).mono ?_; rintro e w9 ⟨⟨yx, rfl, y0, y1⟩, ht, hS⟩)
      have hG6 := hG6.src ht hbY
      have g2 := srcBelow g2 hwb ht
      clear ht
      refine hK.out _ _ g2 (fun hHeld => ?_)
      clear hK K
      have hyw : IntKind.i64.wrap (1 + yx) = 1 + yx := by simp [IntKind.wrap, IntKind.bits, IntKind.signed]; omega
      have hyc : IntKind.u8.wrap (1 + yx) = 1 + yx := by simp [IntKind.wrap, IntKind.bits, IntKind.signed]; omega
      obtain ⟨zx, hzx, hzx0, hzx1⟩ := xor_small hzbb (show 0 ≤ 1 + yx ∧ 1 + yx ≤ 255 by omega)
      try simp only [Act.put]
      try simp only [List.setIfInBounds_toArray]
      try simp only [List.set]
      refine wpAnyH_take (i := 9) (v := ?v11) rfl (by kernel_rfl) (by kernel_rfl) (by kernel_rfl) (fun _ _ _ h => h) (Or.inl ⟨by kernel_rfl, ?h11⟩) hHeld ?_
      case h11 => intro u hSw; (try dsimp only at hSw); go_simp; try with_reducible rfl
      try simp only [List.getElem_toArray]
      try simp only [List.getElem_cons_succ]
      try simp only [List.getElem_cons_zero]
      try simp only [Act.put]
      try simp only [List.setIfInBounds_toArray]
      try simp only [List.set]
      refine wpAnyH_take (i := 10) (v := ?v12) rfl (by kernel_rfl) (by kernel_rfl) (by kernel_rfl) (fun _ _ _ h => h) (Or.inl ⟨by kernel_rfl, ?h12⟩) hHeld ?_
      case h12 => intro u hSw; (try dsimp only at hSw); go_simp; try with_reducible rfl
      try simp only [List.getElem_toArray]
      try simp only [List.getElem_cons_succ]
      try simp only [List.getElem_cons_zero]
      try simp only [Act.put]
      try simp only [List.setIfInBounds_toArray]
      try simp only [List.set]
      refine wpAnyH_ready (rs := [6]) (by kernel_rfl) (by simp) ?_
      refine AllReadyH.cons rfl (fun K hK => ?_) AllReadyH.nil
      obtain ⟨q0, q1⟩ := HCell.out _ hG6
      go_simp
      go_wp2_with fail
      refine hK.out _ _ g2 (fun hHeld => ?_)
      clear hK K q0 q1
      try simp only [Act.put]
      try simp only [List.setIfInBounds_toArray]
      try simp only [List.set]
      refine wpAnyH_take (i := 11) (v := ?v13) rfl (by kernel_rfl) (by kernel_rfl) (by kernel_rfl) (fun _ _ _ h => h) (Or.inl ⟨by kernel_rfl, ?h13⟩) hHeld ?_
      case h13 => intro u hSw; (try dsimp only at hSw); go_simp; try with_reducible rfl
      try simp only [List.getElem_toArray]
      try simp only [List.getElem_cons_succ]
      try simp only [List.getElem_cons_zero]
      try simp only [Act.put]
      try simp only [List.setIfInBounds_toArray]
      try simp only [List.set]
      refine wpAnyH_take (i := 12) (v := ?v14) rfl (by kernel_rfl) (by kernel_rfl) (by kernel_rfl) (fun _ _ _ h => h) (Or.inl ⟨by kernel_rfl, ?h14⟩) hHeld ?_
      case h14 => intro u hSw; (try dsimp only at hSw); go_simp; try with_reducible rfl
      try simp only [List.getElem_toArray]
      try simp only [List.getElem_cons_succ]
      try simp only [List.getElem_cons_zero]
      try simp only [Act.put]
      try simp only [List.setIfInBounds_toArray]
      try simp only [List.set]
      refine wpAnyH_ready (rs := [13]) (by kernel_rfl) (by simp) ?_
      refine AllReadyH.cons rfl (fun K hK => ?_) AllReadyH.nil
      obtain ⟨q0, q1⟩ := HCell.out _ hG6
      have hN := hG6.setOne (i := ix') HM.out zx
      have gN : Below w.heap.size w (w9.setCell ⟨g6, ix', none⟩ (.int .u8 zx)) := g2.setCell (by have := (World.ownsRow.lt hG6 g6 rfl).1; simp only; omega) _
      have HF : Hid (DdPost w (.returned (.slice (some ⟨g6, 0, none⟩) m c6)) (w9.setCell ⟨g6, ix', none⟩ (.int .u8 zx))) := by
        obtain ⟨pa, pc, pe, _, _, pb, _⟩ := hN.shape
        simp only [Value.slice.injEq] at pe
        refine ⟨some ⟨g6, 0, none⟩, ds.set ix' zx, c6, by rw [List.length_set, HM.out], by rw [List.length_set, HM.out]; exact hc6, hc62, by rw [pe.1]; exact pb.reads, fun z hz => ?_, by rw [List.length_set, HM.out]; omega, gN⟩
        rcases List.mem_or_eq_of_mem_set hz with h | h
        · exact HDb.out z h
        · rw [h]; exact ⟨hzx0, hzx1⟩
      go_simp
      go_wp2_with fail
      refine hK.out _ _ gN (fun hHeld => ?_)
      clear hK K q0 q1 hN gN hG6 hS g2
      try simp only [Act.put]
      try simp only [List.setIfInBounds_toArray]
      try simp only [List.set]
      refine wpAnyH_done (by kernel_rfl) ?_ _
      clear hHeld
      go_wp2_with fail
      go_ret
      exact HF.out
  · go_wp2_with fail
    refine (Dr.l1Next_any b a n c zs _ m _ hS (by omega) (by omega) (by omega)).mono ?_
    rintro e w8 ⟨⟨ix, rfl, i0, i1⟩, ht, hS⟩
    have hG6 := hG6.src ht hbY
    have g2 := srcBelow g2 hwb ht
    clear ht
    obtain ⟨ix', rfl⟩ : ∃ ix' : Nat, ix = ix' := ⟨ix.toNat, by omega⟩
    have hi1 : (ix' : Int) ≤ (c6 : Int) := by omega
    have hi2 : ix' ≤ c6 := by omega
    have HF : Hid (DdPost w (.returned (.slice (some ⟨g6, 0, none⟩) ix' c6)) w8) := by
      obtain ⟨pa, pc, pe, _, _, pb, _⟩ := hG6.shape
      simp only [Value.slice.injEq] at pe
      have hl : (ds.take ix').length = ix' := by rw [List.length_take, HM.out]; omega
      refine ⟨some ⟨g6, 0, none⟩, ds.take ix', c6, by rw [hl], by omega, hc62, ?_, fun z hz => HDb.out z (List.mem_of_mem_take hz), by omega, g2⟩
      rw [pe.1]
      exact pb.reads.take ix'
    clear hG6 hS g2
    go_wp2_with fail
    go_ret
    exact HF.out
  · have d0 : (q == 0) = false := by simp; omega
    have d1 : (q == 1) = false := by simp; omega
    have HF : Hid (DdPost w (.returned (.slice (some ⟨g6, 0, none⟩) m c6)) w7) := by
      obtain ⟨pa, pc, pe, _, _, pb, _⟩ := hG6.shape
      simp only [Value.slice.injEq] at pe
      exact ⟨some ⟨g6, 0, none⟩, ds, c6, by rw [HM.out], by rw [HM.out]; exact hc6, hc62, by rw [pe.1]; exact pb.reads, HDb.out, by rw [HM.out]; omega, g2⟩
    clear hG6 hS g2
    go_wp2_with fail
    go_ret
    exact HF.out

/-- A record that was drawn. -/
def DpcPost (w : World) (e : Ending) (w' : World) : Prop := ∃ k tx pg a l ec P A C Z, e = .returned (.agg #[.int .i64 k, .int .i64 tx, .int .i64 pg, .slice a l ec]) ∧ RnOk l Z ∧ RunsRead w' a l P A C Z ∧ Below w.heap.size w w'
set_option maxRecDepth 20000 in
set_option maxHeartbeats 4000000 in
theorem drawPackRecord_any (a : Option Addr) (n c : Nat) (zs : List Int) (w : World) (rd : Dr.Reads w a zs) (hn : zs.length = n) (hm : n ≤ 1048576) (hz : ∀ z ∈ zs, 0 ≤ z ∧ z ≤ 255) :
    Calls Tryd.prog 11 #[.slice a n c] w fun e w' => DpcPost w e w' := by
  go_enter Tryd.func11, Tryd.ntmps11
  go_upto_region 1 with (fail)
  generalize hY : World.alloc _ _ = Y
  have hQ : Rw Y w.heap.size 0 0 0 (.slice none 0 0) := by rw [← hY]; exact ⟨by simp [go_sem], by simp [go_sem], by simp [go_sem], by simp [go_sem], by simp [go_sem], by simp [go_sem], by simp [go_sem], by simp [go_sem]⟩
  have g0 : Below w.heap.size w Y := by rw [← hY]; go_grown
  have rd := rd.below g0 (Nat.le_refl _)
  clear hY
  go_wp2_with fail
  refine (Dr.l1Source_any a n c zs _ rd hn hm hz).mono ?_
  rintro e w1 ⟨rfl, g1, hlt, hS⟩
  have hOl := hQ.lt
  have hQ := hQ.up g1
  have g0 := g0.trans (g1.mono (by have := g0.size; omega))
  generalize Y.heap.size = b at hS hlt hOl ⊢
  clear g1 rd hn hm hz
  go_wp2_with fail
  refine (l4Bent_any b a n c zs _ _ hS (by omega)).mono ?_
  rintro e w3 ⟨⟨k, tx, pg, aa, l, ec, P, A, C, Z, rfl, hOk, hRL, hT⟩, _⟩
  have hQ := hQ.turned hT (.inl (by omega))
  have g0 : Below w.heap.size w w3 := g0.trans (hT.toBelow (by omega) (by omega))
  have hRL := hRL.mono (l' := w.heap.size + 1) (by omega)
  clear hT hS
  have HF : Hid (∀ V', Dr.Turned w.heap.size (w.heap.size + 1) w3 V' → DpcPost w (.returned (.agg #[.int .i64 k, .int .i64 tx, .int .i64 pg, .slice aa l ec])) V') := fun V' T =>
    ⟨k, tx, pg, aa, l, ec, P, A, C, Z, rfl, hOk, (hRL.turned (x := w.heap.size) T).reads, g0.trans (T.toBelow (g0.size) (Nat.le_refl _))⟩
  obtain ⟨Q0, Q1, Q2, Q3, E0, E1, E2, E3⟩ := hQ
  clear hRL g0
  go_wp2_with fail
  refine bodyPost_ret (v := .agg #[.int .i64 k, .int .i64 tx, .int .i64 pg, .slice aa l ec]) (by simp [results, Tryd.results11, go_sem, *]) rfl ?_
  exact HF.out _ (((((Dr.Turned.refl _ _ w3).setCell (by simp) (by simp) _).setCell (by simp) (by simp) _).setCell (by simp) (by simp) _).setCell (by simp) (by simp) _)

end Go.Proofs.YtcjkjenebnodbaaDoor
