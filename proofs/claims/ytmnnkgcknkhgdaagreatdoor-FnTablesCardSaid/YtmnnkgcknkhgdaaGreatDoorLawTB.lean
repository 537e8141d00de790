/-
  The law FnTables answers true at all codes.
-/
import Derived.Test.YtmnnkgcknkhgdaaGreatDoorDmb
import Derived.Test.YtmnnkgcknkhgdaaGreatDoorMbs
import Derived.Test.YtmnnkgcknkhgdaaGreatDoorKtx
import Derived.Laws.BytesArg
namespace Go.Proofs.YtmnnkgcknkhgdaaGreatDoor
open Go.RowKit
set_option linter.unusedVariables false

theorem lwBig_small (a : Option Addr) (n c : Nat) (w : World) (h : n ≤ 1048576) : Calls Tryz.prog 4 #[.slice a n c] w fun e w' => e = .returned (.bool false) ∧ w' = w := by
  have d : ¬ ((1048576 : Int) < (n : Int)) := by omega
  have d2 : decide ((1048576 : Int) < (n : Int)) = false := by simpa using d
  go_enter Tryz.func4, Tryz.ntmps4
  go_wp2
  go_ret
  exact ⟨rfl, rfl⟩
theorem lwBig_big (a : Option Addr) (n c : Nat) (w : World) (h : 1048576 < n) : Calls Tryz.prog 4 #[.slice a n c] w fun e w' => e = .returned (.bool true) ∧ w' = w := by
  have d : (1048576 : Int) < (n : Int) := by omega
  have d2 : decide ((1048576 : Int) < (n : Int)) = true := by simpa using d
  go_enter Tryz.func4, Tryz.ntmps4
  go_wp2
  go_ret
  exact ⟨rfl, rfl⟩

theorem TiPost.form {rs : List Rw} {w w' : World} {e : Ending} (h : TiPost rs w e w') : ∃ a c, e = .returned (.agg #[.int .i64 (rowsQ rs), .slice a (tiL rs).length c]) ∧ Below w.heap.size w w' := by
  obtain ⟨v, rfl, g, ho⟩ := h
  obtain ⟨a, c, rfl, _, hs, _⟩ := SlIn.ofRow rwE_len ho
  exact ⟨a, c, rfl, g⟩

/-- Where MayBe lets a row of another table be, that table is told, and the text is not too long for it. -/
theorem mbQ_entry {rs : List Rw} {x : Chg} (h : mbQ rs x = 0) (hi : x.is = true) (ht : x.a.t ≠ 0) : liQ rs x.a.t = 0 ∧ (x.a.s.size : Int) ≤ liV rs x.a.t := by
  unfold mbQ at h
  split at h
  · rename_i h0
    have hq : rowsQ rs = 0 := by
      unfold orI at h0
      split at h0
      · assumption
      · exact h0
    have hk : kT x = x.a.t := by unfold kT; rw [if_pos hi]
    unfold mbF at h
    rw [hk, if_neg ht, if_pos hi] at h
    unfold entQ at h
    split at h
    · rename_i h1; exact absurd h h1
    · rename_i h1
      split at h
      · exact absurd h (by decide)
      · rename_i h2
        unfold liQ liV
        rw [if_pos hq, if_pos hq]
        exact ⟨by simpa using h1, by omega⟩
  · rename_i h0; exact absurd h h0

structure InC (w : World) (b : Nat) (q v : Int) : Prop where
  c0 : w.cell? ⟨b, 0, none⟩ = some (.int .i64 q)
  c1 : w.cell? ⟨b, 1, none⟩ = some (.int .i64 v)
theorem InC.lt {w : World} {b : Nat} {q v : Int} (h : InC w b q v) : b < w.heap.size := World.block_lt_of_cell? w _ h.c0
theorem InC.below {w w' : World} {b : Nat} {q v : Int} (h : InC w b q v) (hb : Below w.heap.size w w') : InC w' b q v :=
  ⟨(hb.cell (p := ⟨b, 0, none⟩) h.lt).trans h.c0, (hb.cell (p := ⟨b, 1, none⟩) h.lt).trans h.c1⟩
structure RsC (w : World) (b : Nat) (q : Int) (a : Option Addr) (n c : Nat) : Prop where
  c0 : w.cell? ⟨b, 0, none⟩ = some (.int .i64 q)
  c1 : w.cell? ⟨b, 1, none⟩ = some (.slice a n c)
theorem RsC.lt {w : World} {b : Nat} {q : Int} {a : Option Addr} {n c : Nat} (h : RsC w b q a n c) : b < w.heap.size := World.block_lt_of_cell? w _ h.c0
theorem RsC.below {w w' : World} {b : Nat} {q : Int} {a : Option Addr} {n c : Nat} (h : RsC w b q a n c) (hb : Below w.heap.size w w') : RsC w' b q a n c :=
  ⟨(hb.cell (p := ⟨b, 0, none⟩) h.lt).trans h.c0, (hb.cell (p := ⟨b, 1, none⟩) h.lt).trans h.c1⟩
/-- What is held through the great comparison. -/
structure TbS (lb tb : Nat) (lq lv tq : Int) (ta : Option Addr) (m tc g2 : Nat) (rs2 : List Rw) (w V : World) : Prop where
  l : InC V lb lq lv
  u : RsC V tb tq ta m tc
  r : Rs rwE 4 V (some ⟨g2, 0, none⟩) rs2
  g : Below w.heap.size w V
theorem TbS.up {lb tb : Nat} {lq lv tq : Int} {ta : Option Addr} {m tc g2 : Nat} {rs2 : List Rw} {w V W : World} (h : TbS lb tb lq lv tq ta m tc g2 rs2 w V) (hb : Below V.heap.size V W) : TbS lb tb lq lv tq ta m tc g2 rs2 w W :=
  ⟨h.l.below hb, h.u.below hb, h.r.below hb (Nat.le_refl _), h.g.trans (hb.mono h.g.size)⟩
theorem TbS.drew {lb tb : Nat} {lq lv tq : Int} {ta : Option Addr} {m tc g2 : Nat} {rs2 : List Rw} {w V : World} (h : TbS lb tb lq lv tq ta m tc g2 rs2 w V) : TbS lb tb lq lv tq ta m tc g2 rs2 w V.drew :=
  h.up ⟨rfl, rfl, rfl, Nat.le_refl _, fun _ _ => rfl⟩

set_option maxRecDepth 20000 in
set_option maxHeartbeats 40000000 in
theorem lawTables_fits (a : Option Addr) (n c : Nat) (zs : List Int) (w : World) (rd : Reads w a zs) (hn : zs.length = n) (hm : n ≤ 1048576) (hz : ∀ z ∈ zs, 0 ≤ z ∧ z ≤ 255) (hE : Errs w) (hT : Tab w) :
    Calls Tryz.prog 3 #[.slice a n c] w fun e w' => e = .returned (.bool true) ∧ Below w.heap.size w w' := by
  have fi0 : ∀ (q v : Int) (W : World), (Instr.field 35 (.agg #[.int .i64 q, .int .i64 v]) 0).run Tryz.prog W = .ok (.int .i64 q) W := fun _ _ _ => by kernel_rfl
  have fi1 : ∀ (q v : Int) (W : World), (Instr.field 35 (.agg #[.int .i64 q, .int .i64 v]) 1).run Tryz.prog W = .ok (.int .i64 v) W := fun _ _ _ => by kernel_rfl
  have fr0 : ∀ (q : Int) (p : Option Addr) (n c : Nat) (W : World), (Instr.field 38 (.agg #[.int .i64 q, .slice p n c]) 0).run Tryz.prog W = .ok (.int .i64 q) W := fun _ _ _ _ _ => by kernel_rfl
  have fr1 : ∀ (q : Int) (p : Option Addr) (n c : Nat) (W : World), (Instr.field 38 (.agg #[.int .i64 q, .slice p n c]) 1).run Tryz.prog W = .ok (.slice p n c) W := fun _ _ _ _ _ => by kernel_rfl
  have HRd : Hid (∀ V, Below w.heap.size w V → Reads V a zs) := fun V hV => rd.below hV (Nat.le_refl _)
  have HE : Hid (∀ V, Below w.heap.size w V → Errs V) := fun V hV => hE.below hV
  have HT : Hid (∀ V, Below w.heap.size w V → Tab V) := fun V hV => hT.below hV
  have HNz : Hid (zs.length = n) := hn
  have HZ : Hid (∀ z ∈ zs, 0 ≤ z ∧ z ≤ 255) := hz
  have h9 : ∀ s : ByteArray, s.size ≤ 9 → s.size ≤ maxLen := fun s h => Nat.le_trans h (by unfold maxLen; omega)
  have H9 : Hid (∀ s : ByteArray, s.size ≤ 9 → s.size ≤ maxLen) := h9
  clear rd hE hT hn hz h9
  go_enter Tryz.func3, Tryz.ntmps3
  go_wp2_with fail
  refine (lwBig_small a n c _ hm).mono ?_
  rintro e w0 ⟨rfl, h0⟩
  rw [h0]
  clear h0 w0
  go_wp2_with fail
  refine (drawMayBe_any a n c zs _ (HRd.out _ (Below.refl _ _)) HNz.out hm HZ.out).mono ?_
  rintro e w1 ⟨v, x, rfl, hG, hb9, ha9, g1⟩
  obtain ⟨g', cap, rs, rfl, hrl, hss, ho⟩ := hG
  obtain ⟨_, _, e', _, hin, _⟩ := SlIn.ofRow rwE_len ho
  cases e'
  have hR1 := hin.reads
  have HS : Hid (∀ r ∈ rs, r.s.size ≤ maxLen) := fun r hr => H9.out _ (hss r hr)
  have hB := H9.out _ hb9
  have hA := H9.out _ ha9
  obtain ⟨m1, hm1⟩ : ∃ m1, m1 = rs.length := ⟨_, rfl⟩
  have HN1 : Hid (rs.length = m1) := hm1.symm
  rw [← hm1] at hrl ⊢
  clear hm1 ho hin hss hb9 ha9
  obtain ⟨x0, ⟨bt, bk, bv, bs⟩, x5, ⟨at', ak, av, sa⟩⟩ := x
  dsimp only [chA] at hB hA ⊢
  go_upto_region 4 with (fail)
  generalize hY : World.alloc _ _ = Y
  have gY : Below w1.heap.size w1 Y := by rw [← hY]; go_grown
  have C : ChC Y w1.heap.size 0 ⟨x0, ⟨bt, bk, bv, bs⟩, x5, ⟨at', ak, av, sa⟩⟩ := by rw [← hY]; exact ⟨by simp [go_sem], by simp [go_sem], by simp [go_sem], by simp [go_sem], by simp [go_sem], by simp [go_sem], by simp [go_sem], by simp [go_sem], by simp [go_sem], by simp [go_sem]⟩
  have hR1 := hR1.below gY (Nat.le_refl _)
  have g := g1.trans (gY.mono g1.size)
  have HRs : Hid (∀ V, Below Y.heap.size Y V → Rs rwE 4 V (some ⟨g', 0, none⟩) rs) := fun V hV => hR1.below hV (Nat.le_refl _)
  have HC : Hid (∀ V, Below Y.heap.size Y V → ChC V w1.heap.size 0 ⟨x0, ⟨bt, bk, bv, bs⟩, x5, ⟨at', ak, av, sa⟩⟩) := fun V hV => C.below hV C.lt
  clear hY gY hR1 g1
  obtain ⟨q, hq⟩ : ∃ q, q = mbQ rs ⟨x0, ⟨bt, bk, bv, bs⟩, x5, ⟨at', ak, av, sa⟩⟩ := ⟨_, rfl⟩
  have HQ : Hid (mbQ rs ⟨x0, ⟨bt, bk, bv, bs⟩, x5, ⟨at', ak, av, sa⟩⟩ = q) := hq.symm
  clear hq
  generalize w1.heap.size = xb at HC C ⊢
  obtain ⟨z0, z1, z2, z3, z4, z5, z6, z7, z8, z9⟩ := C
  dsimp only at z0 z1 z2 z3 z4 z5 z6 z7 z8 z9
  go_wp2_with fail
  refine (implMayBe_any _ rs m1 cap x0 bt bk bv bs x5 at' ak av sa _ HN1.out (by omega) HS.out hB hA (HRs.out _ (Below.refl _ _)) (HE.out _ g)).mono ?_
  rintro e w2 ⟨rfl, g2⟩
  rw [HQ.out]
  have gc := g2
  have g := g.trans (g2.mono g.size)
  clear g2 z0 z1 z2 z3 z4 z5 z6 z7 z8 z9
  obtain ⟨z0, z1, z2, z3, z4, z5, z6, z7, z8, z9⟩ := HC.out _ gc
  dsimp only at z0 z1 z2 z3 z4 z5 z6 z7 z8 z9
  go_wp2_with fail
  refine (specMayBe_any _ rs m1 cap x0 bt bk bv bs x5 at' ak av sa _ HN1.out (by omega) HS.out hB hA (HRs.out _ gc)).mono ?_
  rintro e w3 ⟨rfl, g3⟩
  rw [HQ.out]
  have gc := gc.trans (g3.mono gc.size)
  have g := g.trans (g3.mono g.size)
  clear g3 z0 z1 z2 z3 z4 z5 z6 z7 z8 z9
  go_wp2_with fail
  refine (drawLongestIn_any a n c zs _ (HRd.out _ g) HNz.out hm HZ.out).mono ?_
  rintro e w4 ⟨v2, t2, rfl, hG2, g4⟩
  have gc := gc.trans (g4.mono gc.size)
  have g := g.trans (g4.mono g.size)
  obtain ⟨g2, c2, rs2, rfl, hrl2, hss2, ho2⟩ := hG2
  obtain ⟨_, _, e', _, hin2, _⟩ := SlIn.ofRow rwE_len ho2
  cases e'
  have hR2 := hin2.reads
  have HS2 : Hid (∀ r ∈ rs2, r.s.size ≤ maxLen) := fun r hr => H9.out _ (hss2 r hr)
  have HS2b : Hid (∀ r ∈ rs2, r.s.size ≤ 1048576) := fun r hr => Nat.le_trans (hss2 r hr) (by omega)
  obtain ⟨m2, hm2⟩ : ∃ m2, m2 = rs2.length := ⟨_, rfl⟩
  have HN2 : Hid (rs2.length = m2) := hm2.symm
  have HR2 : Hid (∀ V, Below w4.heap.size w4 V → Rs rwE 4 V (some ⟨g2, 0, none⟩) rs2) := fun V hV => hR2.below hV (Nat.le_refl _)
  rw [← hm2] at hrl2 ⊢
  clear hm2 ho2 hin2 hss2 hR2 g4
  obtain ⟨lq, hlq⟩ : ∃ q, q = liQ rs2 t2 := ⟨_, rfl⟩
  have HLQ : Hid (liQ rs2 t2 = lq) := hlq.symm
  obtain ⟨lv, hlv⟩ : ∃ q, q = liV rs2 t2 := ⟨_, rfl⟩
  have HLV : Hid (liV rs2 t2 = lv) := hlv.symm
  obtain ⟨tq, htq⟩ : ∃ q, q = rowsQ rs2 := ⟨_, rfl⟩
  have HTQ : Hid (rowsQ rs2 = tq) := htq.symm
  obtain ⟨tm, htm⟩ : ∃ m, m = (tiL rs2).length := ⟨_, rfl⟩
  have HTM : Hid ((tiL rs2).length = tm) := htm.symm
  clear hlq hlv htq htm
  go_wp2_with fail
  refine (implLongestIn_any _ rs2 m2 c2 t2 _ HN2.out (by omega) HS2.out (HR2.out _ (Below.refl _ _)) (HE.out _ g)).mono ?_
  rintro e w5 ⟨rfl, g5⟩
  rw [HLQ.out, HLV.out]
  have gr := g5
  have gc := gc.trans (g5.mono gc.size)
  have g := g.trans (g5.mono g.size)
  clear g5
  go_upto_region 9 with (fail)
  generalize hY : World.alloc _ _ = Y5
  have gY : Below w5.heap.size w5 Y5 := by rw [← hY]; go_grown
  have L : InC Y5 w5.heap.size lq lv := by rw [← hY]; exact ⟨by simp [go_sem], by simp [go_sem]⟩
  have gr := gr.trans (gY.mono gr.size)
  have gc := gc.trans (gY.mono gc.size)
  have g := g.trans (gY.mono g.size)
  clear hY gY
  generalize w5.heap.size = lb at L ⊢
  go_wp2_with fail
  refine (implTablesIn_any _ rs2 m2 c2 _ HN2.out (by omega) HS2b.out (HR2.out _ gr)).mono ?_
  rintro e w6 hti
  obtain ⟨t0a, t0c, rfl, g6⟩ := hti.form
  rw [HTQ.out, HTM.out]
  have L := L.below g6
  have gr := gr.trans (g6.mono gr.size)
  have gc := gc.trans (g6.mono gc.size)
  have g := g.trans (g6.mono g.size)
  clear g6 hti
  go_upto_region 10 with (fail)
  generalize hY : World.alloc _ _ = Y6
  have gY : Below w6.heap.size w6 Y6 := by rw [← hY]; go_grown
  have U : RsC Y6 w6.heap.size tq t0a tm t0c := by rw [← hY]; exact ⟨by simp [go_sem], by simp [go_sem]⟩
  have L := L.below gY
  have gr := gr.trans (gY.mono gr.size)
  have gc := gc.trans (gY.mono gc.size)
  have g := g.trans (gY.mono g.size)
  clear hY gY
  generalize w6.heap.size = tb at U ⊢
  have H : TbS lb tb lq lv tq t0a tm t0c g2 rs2 Y Y6 := ⟨L, U, HR2.out _ gr, gc⟩
  have HW : Hid (∀ V, Below Y6.heap.size Y6 V → Below w.heap.size w V) := fun V hV => g.trans (hV.mono g.size)
  clear L U gr
  refine wp_region_held_drew (S := fun V => TbS lb tb lq lv tq t0a tm t0c g2 rs2 Y V ∧ Below w.heap.size w V) (by kernel_rfl) ⟨H.drew, g.drew⟩ (fun hHeld => ?_)
  generalize Y6.drew = D at hHeld ⊢
  clear H HW gc g
  refine wpAnyH_take (i := 0) (v := ?v1) rfl (by kernel_rfl) (by kernel_rfl) (by kernel_rfl) (fun _ _ _ h => h) (Or.inl ⟨by kernel_rfl, ?h1⟩) hHeld ?_
  case h1 => intro u hSw; (obtain ⟨l0, l1⟩ := hSw.1.l; obtain ⟨u0, u1⟩ := hSw.1.u); clear hSw; go_simp; try with_reducible rfl
  try simp only [List.getElem_toArray]
  try simp only [List.getElem_cons_succ]
  try simp only [List.getElem_cons_zero]
  try simp only [Act.put]
  try simp only [List.setIfInBounds_toArray]
  try simp only [List.set]
  refine wpAnyH_take (i := 1) (v := ?v2) rfl (by kernel_rfl) (by kernel_rfl) (by kernel_rfl) (fun _ _ _ h => h) (Or.inl ⟨by kernel_rfl, ?h2⟩) hHeld ?_
  case h2 => intro u hSw; (obtain ⟨l0, l1⟩ := hSw.1.l; obtain ⟨u0, u1⟩ := hSw.1.u); clear hSw; go_simp; try with_reducible rfl
  try simp only [List.getElem_toArray]
  try simp only [List.getElem_cons_succ]
  try simp only [List.getElem_cons_zero]
  try simp only [Act.put]
  try simp only [List.setIfInBounds_toArray]
  try simp only [List.set]
  refine wpAnyH_take (i := 2) (v := ?v3) rfl (by kernel_rfl) (by kernel_rfl) (by kernel_rfl) (fun _ _ _ h => h) (Or.inl ⟨by kernel_rfl, ?h3⟩) hHeld ?_
  case h3 => intro u hSw; (obtain ⟨l0, l1⟩ := hSw.1.l; obtain ⟨u0, u1⟩ := hSw.1.u); clear hSw; go_simp; try with_reducible rfl
  try simp only [List.getElem_toArray]
  try simp only [List.getElem_cons_succ]
  try simp only [List.getElem_cons_zero]
  try simp only [Act.put]
  try simp only [List.setIfInBounds_toArray]
  try simp only [List.set]
  refine wpAnyH_take (i := 3) (v := ?v4) rfl (by kernel_rfl) (by kernel_rfl) (by kernel_rfl) (fun _ _ _ h => h) (Or.inl ⟨by kernel_rfl, ?h4⟩) hHeld ?_
  case h4 => intro u hSw; (obtain ⟨l0, l1⟩ := hSw.1.l; obtain ⟨u0, u1⟩ := hSw.1.u); clear hSw; go_simp; try with_reducible rfl
  try simp only [List.getElem_toArray]
  try simp only [List.getElem_cons_succ]
  try simp only [List.getElem_cons_zero]
  try simp only [Act.put]
  try simp only [List.setIfInBounds_toArray]
  try simp only [List.set]
  refine wpAnyH_ready (rs := [4]) (by kernel_rfl) (by simp) ?_
  refine AllReadyH.cons rfl (fun K hK => ?_) AllReadyH.nil
  go_simp
  go_wp2_with (go_at_call 11; refine (specLongestIn_any (some ⟨g2, 0, none⟩) rs2 m2 c2 t2 _ HN2.out (by omega) HS2.out (hHeld.1.r)).mono ?_; rintro e D1 ⟨rfl, gb⟩)
  refine hK.out _ _ (⟨hHeld.1.up gb, hHeld.2.trans (gb.mono hHeld.2.size)⟩) (fun hHeld => ?_)
  clear hK K
  clear gb
  rw [HLQ.out, HLV.out]
  try simp only [Act.put]
  try simp only [List.setIfInBounds_toArray]
  try simp only [List.set]
  refine wpAnyH_take (i := 5) (v := ?v5) rfl (by kernel_rfl) (by kernel_rfl) (by kernel_rfl) (fun _ _ _ h => h) (Or.inl ⟨by kernel_rfl, ?h5⟩) hHeld ?_
  case h5 => intro u hSw; (obtain ⟨l0, l1⟩ := hSw.1.l; obtain ⟨u0, u1⟩ := hSw.1.u); clear hSw; go_simp; try with_reducible rfl
  try simp only [List.getElem_toArray]
  try simp only [List.getElem_cons_succ]
  try simp only [List.getElem_cons_zero]
  try simp only [Act.put]
  try simp only [List.setIfInBounds_toArray]
  try simp only [List.set]
  refine wpAnyH_take (i := 6) (v := ?v6) rfl (by kernel_rfl) (by kernel_rfl) (by kernel_rfl) (fun _ _ _ h => h) (Or.inl ⟨by kernel_rfl, ?h6⟩) hHeld ?_
  case h6 => intro u hSw; (obtain ⟨l0, l1⟩ := hSw.1.l; obtain ⟨u0, u1⟩ := hSw.1.u); clear hSw; go_simp; try with_reducible rfl
  try simp only [List.getElem_toArray]
  try simp only [List.getElem_cons_succ]
  try simp only [List.getElem_cons_zero]
  try simp only [Act.put]
  try simp only [List.setIfInBounds_toArray]
  try simp only [List.set]
  refine wpAnyH_take (i := 7) (v := ?v7) rfl (by kernel_rfl) (by kernel_rfl) (by kernel_rfl) (fun _ _ _ h => h) (Or.inl ⟨by kernel_rfl, ?h7⟩) hHeld ?_
  case h7 => intro u hSw; (obtain ⟨l0, l1⟩ := hSw.1.l; obtain ⟨u0, u1⟩ := hSw.1.u); clear hSw; go_simp; try with_reducible rfl
  try simp only [List.getElem_toArray]
  try simp only [List.getElem_cons_succ]
  try simp only [List.getElem_cons_zero]
  try simp only [Act.put]
  try simp only [List.setIfInBounds_toArray]
  try simp only [List.set]
  refine wpAnyH_take (i := 8) (v := ?v8) rfl (by kernel_rfl) (by kernel_rfl) (by kernel_rfl) (fun _ _ _ h => h) (Or.inl ⟨by kernel_rfl, ?h8⟩) hHeld ?_
  case h8 => intro u hSw; (obtain ⟨l0, l1⟩ := hSw.1.l; obtain ⟨u0, u1⟩ := hSw.1.u); clear hSw; go_simp; try with_reducible rfl
  try simp only [List.getElem_toArray]
  try simp only [List.getElem_cons_succ]
  try simp only [List.getElem_cons_zero]
  try simp only [Act.put]
  try simp only [List.setIfInBounds_toArray]
  try simp only [List.set]
  refine wpAnyH_take (i := 9) (v := ?v9) rfl (by kernel_rfl) (by kernel_rfl) (by kernel_rfl) (fun _ _ _ h => h) (Or.inl ⟨by kernel_rfl, ?h9⟩) hHeld ?_
  case h9 => intro u hSw; (obtain ⟨l0, l1⟩ := hSw.1.l; obtain ⟨u0, u1⟩ := hSw.1.u); clear hSw; go_simp; try with_reducible rfl
  try simp only [List.getElem_toArray]
  try simp only [List.getElem_cons_succ]
  try simp only [List.getElem_cons_zero]
  try simp only [Act.put]
  try simp only [List.setIfInBounds_toArray]
  try simp only [List.set]
  refine wpAnyH_take (i := 10) (v := ?v10) rfl (by kernel_rfl) (by kernel_rfl) (by kernel_rfl) (fun _ _ _ h => h) (Or.inl ⟨by kernel_rfl, ?h10⟩) hHeld ?_
  case h10 => intro u hSw; (obtain ⟨l0, l1⟩ := hSw.1.l; obtain ⟨u0, u1⟩ := hSw.1.u); clear hSw; go_simp; try with_reducible rfl
  try simp only [List.getElem_toArray]
  try simp only [List.getElem_cons_succ]
  try simp only [List.getElem_cons_zero]
  try simp only [Act.put]
  try simp only [List.setIfInBounds_toArray]
  try simp only [List.set]
  refine wpAnyH_take (i := 11) (v := ?v11) rfl (by kernel_rfl) (by kernel_rfl) (by kernel_rfl) (fun _ _ _ h => h) (Or.inl ⟨by kernel_rfl, ?h11⟩) hHeld ?_
  case h11 => intro u hSw; (obtain ⟨l0, l1⟩ := hSw.1.l; obtain ⟨u0, u1⟩ := hSw.1.u); clear hSw; go_simp; try with_reducible rfl
  try simp only [List.getElem_toArray]
  try simp only [List.getElem_cons_succ]
  try simp only [List.getElem_cons_zero]
  try simp only [Act.put]
  try simp only [List.setIfInBounds_toArray]
  try simp only [List.set]
  refine wpAnyH_ready (rs := [12]) (by kernel_rfl) (by simp) ?_
  refine AllReadyH.cons rfl (fun K hK => ?_) AllReadyH.nil
  go_simp
  go_wp2_with (go_at_call 11; refine (specLongestIn_any (some ⟨g2, 0, none⟩) rs2 m2 c2 t2 _ HN2.out (by omega) HS2.out (hHeld.1.r)).mono ?_; rintro e D2 ⟨rfl, gb⟩)
  refine hK.out _ _ (⟨hHeld.1.up gb, hHeld.2.trans (gb.mono hHeld.2.size)⟩) (fun hHeld => ?_)
  clear hK K
  clear gb
  rw [HLQ.out, HLV.out]
  try simp only [Act.put]
  try simp only [List.setIfInBounds_toArray]
  try simp only [List.set]
  refine wpAnyH_take (i := 13) (v := ?v12) rfl (by kernel_rfl) (by kernel_rfl) (by kernel_rfl) (fun _ _ _ h => h) (Or.inl ⟨by kernel_rfl, ?h12⟩) hHeld ?_
  case h12 => intro u hSw; (obtain ⟨l0, l1⟩ := hSw.1.l; obtain ⟨u0, u1⟩ := hSw.1.u); clear hSw; go_simp; try with_reducible rfl
  try simp only [List.getElem_toArray]
  try simp only [List.getElem_cons_succ]
  try simp only [List.getElem_cons_zero]
  try simp only [Act.put]
  try simp only [List.setIfInBounds_toArray]
  try simp only [List.set]
  refine wpAnyH_take (i := 14) (v := ?v13) rfl (by kernel_rfl) (by kernel_rfl) (by kernel_rfl) (fun _ _ _ h => h) (Or.inl ⟨by kernel_rfl, ?h13⟩) hHeld ?_
  case h13 => intro u hSw; (obtain ⟨l0, l1⟩ := hSw.1.l; obtain ⟨u0, u1⟩ := hSw.1.u); clear hSw; go_simp; try with_reducible rfl
  try simp only [List.getElem_toArray]
  try simp only [List.getElem_cons_succ]
  try simp only [List.getElem_cons_zero]
  try simp only [Act.put]
  try simp only [List.setIfInBounds_toArray]
  try simp only [List.set]
  refine wpAnyH_take (i := 15) (v := ?v14) rfl (by kernel_rfl) (by kernel_rfl) (by kernel_rfl) (fun _ _ _ h => h) (Or.inl ⟨by kernel_rfl, ?h14⟩) hHeld ?_
  case h14 => intro u hSw; (obtain ⟨l0, l1⟩ := hSw.1.l; obtain ⟨u0, u1⟩ := hSw.1.u); clear hSw; go_simp; try with_reducible rfl
  try simp only [List.getElem_toArray]
  try simp only [List.getElem_cons_succ]
  try simp only [List.getElem_cons_zero]
  try simp only [Act.put]
  try simp only [List.setIfInBounds_toArray]
  try simp only [List.set]
  refine wpAnyH_take (i := 16) (v := ?v15) rfl (by kernel_rfl) (by kernel_rfl) (by kernel_rfl) (fun _ _ _ h => h) (Or.inl ⟨by kernel_rfl, ?h15⟩) hHeld ?_
  case h15 => intro u hSw; (obtain ⟨l0, l1⟩ := hSw.1.l; obtain ⟨u0, u1⟩ := hSw.1.u); clear hSw; go_simp; try with_reducible rfl
  try simp only [List.getElem_toArray]
  try simp only [List.getElem_cons_succ]
  try simp only [List.getElem_cons_zero]
  try simp only [Act.put]
  try simp only [List.setIfInBounds_toArray]
  try simp only [List.set]
  refine wpAnyH_take (i := 17) (v := ?v16) rfl (by kernel_rfl) (by kernel_rfl) (by kernel_rfl) (fun _ _ _ h => h) (Or.inl ⟨by kernel_rfl, ?h16⟩) hHeld ?_
  case h16 => intro u hSw; (obtain ⟨l0, l1⟩ := hSw.1.l; obtain ⟨u0, u1⟩ := hSw.1.u); clear hSw; go_simp; try with_reducible rfl
  try simp only [List.getElem_toArray]
  try simp only [List.getElem_cons_succ]
  try simp only [List.getElem_cons_zero]
  try simp only [Act.put]
  try simp only [List.setIfInBounds_toArray]
  try simp only [List.set]
  refine wpAnyH_take (i := 18) (v := ?v17) rfl (by kernel_rfl) (by kernel_rfl) (by kernel_rfl) (fun _ _ _ h => h) (Or.inl ⟨by kernel_rfl, ?h17⟩) hHeld ?_
  case h17 => intro u hSw; (obtain ⟨l0, l1⟩ := hSw.1.l; obtain ⟨u0, u1⟩ := hSw.1.u); clear hSw; go_simp; try with_reducible rfl
  try simp only [List.getElem_toArray]
  try simp only [List.getElem_cons_succ]
  try simp only [List.getElem_cons_zero]
  try simp only [Act.put]
  try simp only [List.setIfInBounds_toArray]
  try simp only [List.set]
  refine wpAnyH_take (i := 19) (v := ?v18) rfl (by kernel_rfl) (by kernel_rfl) (by kernel_rfl) (fun _ _ _ h => h) (Or.inl ⟨by kernel_rfl, ?h18⟩) hHeld ?_
  case h18 => intro u hSw; (obtain ⟨l0, l1⟩ := hSw.1.l; obtain ⟨u0, u1⟩ := hSw.1.u); clear hSw; go_simp; try with_reducible rfl
  try simp only [List.getElem_toArray]
  try simp only [List.getElem_cons_succ]
  try simp only [List.getElem_cons_zero]
  try simp only [Act.put]
  try simp only [List.setIfInBounds_toArray]
  try simp only [List.set]
  refine wpAnyH_ready (rs := [20]) (by kernel_rfl) (by simp) ?_
  refine AllReadyH.cons rfl (fun K hK => ?_) AllReadyH.nil
  go_simp
  go_wp2_with (go_at_call 12; refine (specTablesIn_any (some ⟨g2, 0, none⟩) rs2 m2 c2 _ HN2.out (by omega) HS2.out (hHeld.1.r)).mono ?_; rintro e D3 hti; obtain ⟨ta, tac, rfl, gb⟩ := hti.form)
  refine hK.out _ _ (⟨hHeld.1.up gb, hHeld.2.trans (gb.mono hHeld.2.size)⟩) (fun hHeld => ?_)
  clear hK K
  clear gb hti
  rw [HTQ.out, HTM.out]
  try simp only [Act.put]
  try simp only [List.setIfInBounds_toArray]
  try simp only [List.set]
  refine wpAnyH_take (i := 21) (v := ?v19) rfl (by kernel_rfl) (by kernel_rfl) (by kernel_rfl) (fun _ _ _ h => h) (Or.inl ⟨by kernel_rfl, ?h19⟩) hHeld ?_
  case h19 => intro u hSw; (obtain ⟨l0, l1⟩ := hSw.1.l; obtain ⟨u0, u1⟩ := hSw.1.u); clear hSw; go_simp; try with_reducible rfl
  try simp only [List.getElem_toArray]
  try simp only [List.getElem_cons_succ]
  try simp only [List.getElem_cons_zero]
  try simp only [Act.put]
  try simp only [List.setIfInBounds_toArray]
  try simp only [List.set]
  refine wpAnyH_take (i := 22) (v := ?v20) rfl (by kernel_rfl) (by kernel_rfl) (by kernel_rfl) (fun _ _ _ h => h) (Or.inl ⟨by kernel_rfl, ?h20⟩) hHeld ?_
  case h20 => intro u hSw; (obtain ⟨l0, l1⟩ := hSw.1.l; obtain ⟨u0, u1⟩ := hSw.1.u); clear hSw; go_simp; try with_reducible rfl
  try simp only [List.getElem_toArray]
  try simp only [List.getElem_cons_succ]
  try simp only [List.getElem_cons_zero]
  try simp only [Act.put]
  try simp only [List.setIfInBounds_toArray]
  try simp only [List.set]
  refine wpAnyH_take (i := 23) (v := ?v21) rfl (by kernel_rfl) (by kernel_rfl) (by kernel_rfl) (fun _ _ _ h => h) (Or.inl ⟨by kernel_rfl, ?h21⟩) hHeld ?_
  case h21 => intro u hSw; (obtain ⟨l0, l1⟩ := hSw.1.l; obtain ⟨u0, u1⟩ := hSw.1.u); clear hSw; go_simp; try with_reducible rfl
  try simp only [List.getElem_toArray]
  try simp only [List.getElem_cons_succ]
  try simp only [List.getElem_cons_zero]
  try simp only [Act.put]
  try simp only [List.setIfInBounds_toArray]
  try simp only [List.set]
  refine wpAnyH_take (i := 24) (v := ?v22) rfl (by kernel_rfl) (by kernel_rfl) (by kernel_rfl) (fun _ _ _ h => h) (Or.inl ⟨by kernel_rfl, ?h22⟩) hHeld ?_
  case h22 => intro u hSw; (obtain ⟨l0, l1⟩ := hSw.1.l; obtain ⟨u0, u1⟩ := hSw.1.u); clear hSw; go_simp; try with_reducible rfl
  try simp only [List.getElem_toArray]
  try simp only [List.getElem_cons_succ]
  try simp only [List.getElem_cons_zero]
  try simp only [Act.put]
  try simp only [List.setIfInBounds_toArray]
  try simp only [List.set]
  refine wpAnyH_take (i := 25) (v := ?v23) rfl (by kernel_rfl) (by kernel_rfl) (by kernel_rfl) (fun _ _ _ h => h) (Or.inl ⟨by kernel_rfl, ?h23⟩) hHeld ?_
  case h23 => intro u hSw; (obtain ⟨l0, l1⟩ := hSw.1.l; obtain ⟨u0, u1⟩ := hSw.1.u); clear hSw; go_simp; try with_reducible rfl
  try simp only [List.getElem_toArray]
  try simp only [List.getElem_cons_succ]
  try simp only [List.getElem_cons_zero]
  try simp only [Act.put]
  try simp only [List.setIfInBounds_toArray]
  try simp only [List.set]
  refine wpAnyH_take (i := 26) (v := ?v24) rfl (by kernel_rfl) (by kernel_rfl) (by kernel_rfl) (fun _ _ _ h => h) (Or.inl ⟨by kernel_rfl, ?h24⟩) hHeld ?_
  case h24 => intro u hSw; (obtain ⟨l0, l1⟩ := hSw.1.l; obtain ⟨u0, u1⟩ := hSw.1.u); clear hSw; go_simp; try with_reducible rfl
  try simp only [List.getElem_toArray]
  try simp only [List.getElem_cons_succ]
  try simp only [List.getElem_cons_zero]
  try simp only [Act.put]
  try simp only [List.setIfInBounds_toArray]
  try simp only [List.set]
  refine wpAnyH_take (i := 27) (v := ?v25) rfl (by kernel_rfl) (by kernel_rfl) (by kernel_rfl) (fun _ _ _ h => h) (Or.inl ⟨by kernel_rfl, ?h25⟩) hHeld ?_
  case h25 => intro u hSw; (obtain ⟨l0, l1⟩ := hSw.1.l; obtain ⟨u0, u1⟩ := hSw.1.u); clear hSw; go_simp; try with_reducible rfl
  try simp only [List.getElem_toArray]
  try simp only [List.getElem_cons_succ]
  try simp only [List.getElem_cons_zero]
  try simp only [Act.put]
  try simp only [List.setIfInBounds_toArray]
  try simp only [List.set]
  refine wpAnyH_take (i := 28) (v := ?v26) rfl (by kernel_rfl) (by kernel_rfl) (by kernel_rfl) (fun _ _ _ h => h) (Or.inl ⟨by kernel_rfl, ?h26⟩) hHeld ?_
  case h26 => intro u hSw; (obtain ⟨l0, l1⟩ := hSw.1.l; obtain ⟨u0, u1⟩ := hSw.1.u); clear hSw; go_simp; try with_reducible rfl
  try simp only [List.getElem_toArray]
  try simp only [List.getElem_cons_succ]
  try simp only [List.getElem_cons_zero]
  try simp only [Act.put]
  try simp only [List.setIfInBounds_toArray]
  try simp only [List.set]
  refine wpAnyH_ready (rs := [29]) (by kernel_rfl) (by simp) ?_
  refine AllReadyH.cons rfl (fun K hK => ?_) AllReadyH.nil
  go_simp
  go_wp2_with (go_at_call 12; refine (specTablesIn_any (some ⟨g2, 0, none⟩) rs2 m2 c2 _ HN2.out (by omega) HS2.out (hHeld.1.r)).mono ?_; rintro e D4 hti; obtain ⟨tb2, tb2c, rfl, gb⟩ := hti.form)
  refine hK.out _ _ (⟨hHeld.1.up gb, hHeld.2.trans (gb.mono hHeld.2.size)⟩) (fun hHeld => ?_)
  clear hK K
  clear gb hti
  rw [HTQ.out, HTM.out]
  try simp only [Act.put]
  try simp only [List.setIfInBounds_toArray]
  try simp only [List.set]
  refine wpAnyH_take (i := 30) (v := ?v27) rfl (by kernel_rfl) (by kernel_rfl) (by kernel_rfl) (fun _ _ _ h => h) (Or.inl ⟨by kernel_rfl, ?h27⟩) hHeld ?_
  case h27 => intro u hSw; (obtain ⟨l0, l1⟩ := hSw.1.l; obtain ⟨u0, u1⟩ := hSw.1.u); clear hSw; go_simp; try with_reducible rfl
  try simp only [List.getElem_toArray]
  try simp only [List.getElem_cons_succ]
  try simp only [List.getElem_cons_zero]
  try simp only [Act.put]
  try simp only [List.setIfInBounds_toArray]
  try simp only [List.set]
  refine wpAnyH_take (i := 31) (v := ?v28) rfl (by kernel_rfl) (by kernel_rfl) (by kernel_rfl) (fun _ _ _ h => h) (Or.inl ⟨by kernel_rfl, ?h28⟩) hHeld ?_
  case h28 => intro u hSw; (obtain ⟨l0, l1⟩ := hSw.1.l; obtain ⟨u0, u1⟩ := hSw.1.u); clear hSw; go_simp; try with_reducible rfl
  try simp only [List.getElem_toArray]
  try simp only [List.getElem_cons_succ]
  try simp only [List.getElem_cons_zero]
  try simp only [Act.put]
  try simp only [List.setIfInBounds_toArray]
  try simp only [List.set]
  refine wpAnyH_take (i := 32) (v := ?v29) rfl (by kernel_rfl) (by kernel_rfl) (by kernel_rfl) (fun _ _ _ h => h) (Or.inl ⟨by kernel_rfl, ?h29⟩) hHeld ?_
  case h29 => intro u hSw; (obtain ⟨l0, l1⟩ := hSw.1.l; obtain ⟨u0, u1⟩ := hSw.1.u); clear hSw; go_simp; try with_reducible rfl
  try simp only [List.getElem_toArray]
  try simp only [List.getElem_cons_succ]
  try simp only [List.getElem_cons_zero]
  try simp only [Act.put]
  try simp only [List.setIfInBounds_toArray]
  try simp only [List.set]
  refine wpAnyH_take (i := 33) (v := ?v30) rfl (by kernel_rfl) (by kernel_rfl) (by kernel_rfl) (fun _ _ _ h => h) (Or.inl ⟨by kernel_rfl, ?h30⟩) hHeld ?_
  case h30 => intro u hSw; (obtain ⟨l0, l1⟩ := hSw.1.l; obtain ⟨u0, u1⟩ := hSw.1.u); clear hSw; go_simp; try with_reducible rfl
  try simp only [List.getElem_toArray]
  try simp only [List.getElem_cons_succ]
  try simp only [List.getElem_cons_zero]
  try simp only [Act.put]
  try simp only [List.setIfInBounds_toArray]
  try simp only [List.set]
  refine wpAnyH_done (by kernel_rfl) ?_ _
  have gc := hHeld.1.g
  have g := hHeld.2
  clear hHeld fi0 fi1 fr0 fr1 HLQ HLV HTQ HTM
  go_wp2_with fail
  refine (drawKeyText_any a n c zs _ (HRd.out _ g) HNz.out hm HZ.out).mono ?_
  rintro e w7 ⟨kt, kk, rfl, g7⟩
  have gc := gc.trans (g7.mono gc.size)
  have g := g.trans (g7.mono g.size)
  clear g7
  go_upto_region 13 with (fail)
  generalize hY : World.alloc _ _ = Y7
  have gY : Below w7.heap.size w7 Y7 := by rw [← hY]; go_grown
  have Kc : InC Y7 w7.heap.size kt kk := by rw [← hY]; exact ⟨by simp [go_sem], by simp [go_sem]⟩
  have gc := gc.trans (gY.mono gc.size)
  have g := g.trans (gY.mono g.size)
  clear hY gY
  generalize w7.heap.size = kb at Kc ⊢
  refine wp_region_held_drew (S := fun V => InC V kb kt kk ∧ Below w.heap.size w V ∧ Below Y.heap.size Y V) (by kernel_rfl) ⟨⟨Kc.c0, Kc.c1⟩, g.drew, gc.drew⟩ (fun hHeld => ?_)
  generalize Y7.drew = D9 at hHeld ⊢
  clear Kc g gc
  refine wpAnyH_take (i := 0) (v := ?v31) rfl (by kernel_rfl) (by kernel_rfl) (by kernel_rfl) (fun _ _ _ h => h) (Or.inl ⟨by kernel_rfl, ?h31⟩) hHeld ?_
  case h31 => intro u hSw; (obtain ⟨l0, l1⟩ := hSw.1); clear hSw; go_simp; try with_reducible rfl
  try simp only [List.getElem_toArray]
  try simp only [List.getElem_cons_succ]
  try simp only [List.getElem_cons_zero]
  try simp only [Act.put]
  try simp only [List.setIfInBounds_toArray]
  try simp only [List.set]
  refine wpAnyH_take (i := 2) (v := ?v32) rfl (by kernel_rfl) (by kernel_rfl) (by kernel_rfl) (fun _ _ _ h => h) (Or.inl ⟨by kernel_rfl, ?h32⟩) hHeld ?_
  case h32 => intro u hSw; (obtain ⟨l0, l1⟩ := hSw.1); clear hSw; go_simp; try with_reducible rfl
  try simp only [List.getElem_toArray]
  try simp only [List.getElem_cons_succ]
  try simp only [List.getElem_cons_zero]
  try simp only [Act.put]
  try simp only [List.setIfInBounds_toArray]
  try simp only [List.set]
  refine wpAnyH_ready (rs := [1]) (by kernel_rfl) (by simp) ?_
  refine AllReadyH.cons rfl (fun K hK => ?_) AllReadyH.nil
  go_simp
  go_wp2_with (go_at_call 14; refine (implKeyText_any kt kk _ (HT.out _ hHeld.2.1)).mono ?_; rintro e E1 ⟨rfl, gb⟩)
  refine hK.out _ _ (⟨hHeld.1.below gb, hHeld.2.1.trans (gb.mono hHeld.2.1.size), hHeld.2.2.trans (gb.mono hHeld.2.2.size)⟩) (fun hHeld => ?_)
  clear hK K
  clear gb
  try simp only [Act.put]
  try simp only [List.setIfInBounds_toArray]
  try simp only [List.set]
  refine wpAnyH_ready (rs := [3]) (by kernel_rfl) (by simp) ?_
  refine AllReadyH.cons rfl (fun K hK => ?_) AllReadyH.nil
  go_simp
  go_wp2_with (go_at_call 15; refine (specKeyText_any kt kk _).mono ?_; rintro e E2 ⟨rfl, gb⟩)
  refine hK.out _ _ (⟨hHeld.1.below gb, hHeld.2.1.trans (gb.mono hHeld.2.1.size), hHeld.2.2.trans (gb.mono hHeld.2.2.size)⟩) (fun hHeld => ?_)
  clear hK K
  clear gb
  try simp only [Act.put]
  try simp only [List.setIfInBounds_toArray]
  try simp only [List.set]
  generalize ktQ kt kk = kq
  generalize ktS kt kk = ks
  refine wpAnyH_take (i := 4) (v := ?v33) rfl (by kernel_rfl) (by kernel_rfl) (by kernel_rfl) (fun _ _ _ h => h) (Or.inl ⟨by kernel_rfl, ?h33⟩) hHeld ?_
  case h33 => intro u hSw; clear hSw; go_simp; try with_reducible rfl
  try simp only [List.getElem_toArray]
  try simp only [List.getElem_cons_succ]
  try simp only [List.getElem_cons_zero]
  try simp only [Act.put]
  try simp only [List.setIfInBounds_toArray]
  try simp only [List.set]
  refine wpAnyH_done (by kernel_rfl) ?_ _
  have g := hHeld.2.1
  have gc := hHeld.2.2
  clear hHeld
  obtain ⟨z0, z1, z2, z3, z4, z5, z6, z7, z8, z9⟩ := HC.out _ gc
  dsimp only at z0 z1 z2 z3 z4 z5 z6 z7 z8 z9
  by_cases hq0 : q = 0
  · subst hq0
    cases x5
    · go_wp2_with fail
      go_ret
      exact ⟨rfl, g⟩
    · by_cases ht0 : at' = 0
      · subst ht0
        go_wp2_with fail
        go_ret
        exact ⟨rfl, g⟩
      · have hd : (at' == 0) = false := by simpa using ht0
        have hen := mbQ_entry HQ.out rfl ht0
        dsimp only at hen
        obtain ⟨nv, hnv⟩ : ∃ nv, nv = liV rs at' := ⟨_, rfl⟩
        have HNV : Hid (liV rs at' = nv) := hnv.symm
        have HNQ : Hid (liQ rs at' = 0) := hen.1
        have hle : (sa.size : Int) ≤ nv := by rw [hnv]; exact hen.2
        clear hen hnv
        go_wp2_with fail
        refine (implLongestIn_any _ rs m1 cap at' _ HN1.out (by omega) HS.out (HRs.out _ gc) (HE.out _ g)).mono ?_
        rintro e w9 ⟨rfl, g9⟩
        rw [HNQ.out, HNV.out]
        have gc := gc.trans (g9.mono gc.size)
        have g := g.trans (g9.mono g.size)
        clear g9 z0 z1 z2 z3 z4 z5 z6 z7 z8 z9
        go_upto_region 18 with (fail)
        generalize hY : World.alloc _ _ = Y9
        have gY : Below w9.heap.size w9 Y9 := by rw [← hY]; go_grown
        have L9 : InC Y9 w9.heap.size 0 nv := by rw [← hY]; exact ⟨by simp [go_sem], by simp [go_sem]⟩
        have gc := gc.trans (gY.mono gc.size)
        have g := g.trans (gY.mono g.size)
        clear hY gY
        generalize w9.heap.size = nb at L9 ⊢
        obtain ⟨l0, l1⟩ := L9
        obtain ⟨z0, z1, z2, z3, z4, z5, z6, z7, z8, z9⟩ := HC.out _ gc
        dsimp only at z0 z1 z2 z3 z4 z5 z6 z7 z8 z9
        have hdl : decide ((sa.size : Int) ≤ nv) = true := by simpa using hle
        go_wp2_with fail
        go_ret
        exact ⟨by simp, g⟩
  · have d : (q != 0) = true := by simpa using hq0
    go_wp2_with fail
    go_ret
    exact ⟨rfl, g⟩

set_option maxHeartbeats 400000 in
theorem lawTables_over (a : Option Addr) (n c : Nat) (w : World) (hs : 1048576 < n) :
    Calls Tryz.prog 3 #[.slice a n c] w fun e w' => e = .returned (.bool true) ∧ Below w.heap.size w w' := by
  go_enter Tryz.func3, Tryz.ntmps3
  go_wp2_with fail
  refine (lwBig_big a n c _ hs).mono ?_
  rintro e w0 ⟨rfl, h0⟩
  rw [h0]
  clear h0 w0
  go_wp2_with fail
  go_ret
  exact ⟨rfl, Below.refl _ _⟩

end Go.Proofs.YtmnnkgcknkhgdaaGreatDoor

