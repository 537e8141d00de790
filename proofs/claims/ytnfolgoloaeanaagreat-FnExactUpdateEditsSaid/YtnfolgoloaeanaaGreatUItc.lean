/-
  The program's turnCell.
-/
import Derived.Test.YtnfolgoloaeanaaGreatUIss

namespace Go.Proofs.YtnfolgoloaeanaaGreat
open Go.RowKit
set_option linter.unusedVariables false
set_option maxRecDepth 20000

/-- The blocks of turnCell's own variables, and those of sb. -/
def tcP (sb : Nat → Prop) (hb ab tb : Nat) : Nat → Prop := fun g => sb g ∨ g = hb ∨ g = ab ∨ g = tb
theorem PRes.of_block {w w' : World} {b : Nat} {q s : Int} {v : Value} (h : PRes w b q s v) (e : w'.heap[b]? = w.heap[b]?) : PRes w' b q s v :=
  ⟨(World.cell?_of_block (a := ⟨b, 0, none⟩) e).trans h.c0, (World.cell?_of_block (a := ⟨b, 1, none⟩) e).trans h.c1, (World.cell?_of_block (a := ⟨b, 2, none⟩) e).trans h.c2, (World.frozen?_of_block (a := ⟨b, 0, none⟩) e).trans h.f0, (World.frozen?_of_block (a := ⟨b, 1, none⟩) e).trans h.f1, (World.frozen?_of_block (a := ⟨b, 2, none⟩) e).trans h.f2⟩

set_option maxHeartbeats 8000000 in
theorem turnCell_any (sb : Nat → Prop) (B : Nat → Option Obj) (n₀ : Nat) (X : World) (ob : Nat) (es : List (Int × List Int)) (cur : List (List Int)) (pn sl cb so n cc : Nat) (old cs : List Int) (w : World) (hS : R3X sb B n₀ X ob es cur w) (hok : okP cur) (hc12 : cur.length ≤ 12) (hel : es.length ≤ 900) (hold : cur[pn]? = some old) (hh : HasS old sl) (hC : Cx sb cb so B cs n) :
    Calls Tryz.prog 124 #[.pointer (some ⟨ob, 0, none⟩), .agg #[.int .i64 pn, .int .i64 sl], .slice (some ⟨cb, so, none⟩) n cc] w fun e w' => TsPost sb B n₀ X ob (stS (es, cur) pn sl old cs) e w' := by
  have hmf : ∀ (fn : Fn) (first cap : Array Value) (w : World), (Instr.makeFunc fn first cap).run Tryz.prog w = .ok (.func fn first cap) w := fun _ _ _ _ => rfl
  obtain ⟨x1, k1, V1, x2, k2, V2, hx0⟩ := hS
  have hpl : pn < cur.length := (List.getElem?_eq_some_iff.1 hold).1
  have hF := hok.at hold
  obtain ⟨gp, ay, cy, rfl, c8, hyr, hyl⟩ := hx0.page hold
  rw [hF.pg.len] at c8 hyl
  obtain ⟨m, hm⟩ : ∃ m, cur.length = m := ⟨_, rfl⟩
  have ho := hx0.o
  rw [hm] at ho
  have hpi : (pn : Int) < (m : Int) := by omega
  have hpm : pn < m := by omega
  have hcn := hC.ln
  have h1 := hC.h1
  have h20 := hC.h20
  obtain ⟨q, hq⟩ : ∃ q, setQ old sl n = q := ⟨_, rfl⟩
  obtain ⟨ys, hys⟩ : ∃ ys, setP old sl cs = ys := ⟨_, rfl⟩
  have HQ : Hid (setQ old sl cs.length = q) := by show _ = _; rw [hcn]; exact hq
  have HYs : Hid (setP old sl cs = ys) := hys
  have HC : Hid (Cx sb cb so B cs n) := hC
  have HX : Hid (HpX sb B n₀ X ob es cur x1 k1 V1 (some ⟨gp, 0, none⟩) k2 V2 w) := hx0
  have HOk : Hid (okP cur) := hok
  have HM : Hid (cur.length = m) := hm
  have HOld : Hid (cur[pn]? = some old) := hold
  have HSet0 : Hid (∀ V, Below w.heap.size w V → Calls Tryz.prog 173 #[.slice ay 64 cy, .int .i64 sl, .slice (some ⟨cb, so, none⟩) n cc] V fun e w' => ∃ xa na ca, e = .returned (.agg #[.int .i64 q, .int .i64 0, .slice xa na ca]) ∧ Below V.heap.size V w' ∧ (q = 0 → ∃ g, (xa = some ⟨g, 0, none⟩ ∧ na = 64 ∧ ca = 64) ∧ V.heap.size ≤ g ∧ Arr w' g ys)) := fun V hV => by
    rw [← hys]
    obtain ⟨W, hW, hrw⟩ := hC.rd
    exact setSlot_w ay old cs cy sl cb so n cc V hF hyl (hyr.below hV (Nat.le_refl _)) hh hcn h1 h20 hC.bd ((hx0.below hV).rd hC.i hW hrw) hq
  obtain ⟨o0, _, _, _⟩ := ho
  have hls := hx0.ls
  have hsz := hx0.sz
  clear hq hys hC hx0 hok hm hold hyr
  go_enter_defers Tryz.func124, Tryz.ntmps124
  go_upto_region 1 with (fail)
  generalize hY : World.alloc _ _ = Y
  have gY : Below w.heap.size w Y := by rw [← hY]; go_grown
  have hYs : Y.heap.size = w.heap.size + 2 := by rw [← hY]; simp
  have hT : TcC w.heap.size (w.heap.size + 1) ob gp pn sl m k2 cy ay Y := by
    have t1 := (gY.cell (p := ⟨ob, 0, none⟩) (World.block_lt_of_cell? w _ o0)).trans o0
    have t2 := (gY.cell (p := ⟨gp, pn, none⟩) (World.block_lt_of_cell? w _ c8)).trans c8
    refine ⟨?_, t1, ?_, ?_, t2⟩
    · rw [← hY]; simp [go_sem]
    · rw [← hY]; simp [go_sem]
    · rw [← hY]; simp [go_sem]
  clear hY
  obtain ⟨ab, hab⟩ : ∃ ab, w.heap.size + 1 = ab := ⟨_, rfl⟩
  simp only [hab] at hT ⊢
  have hwa : w.heap.size < ab := by omega
  have haY : ab < Y.heap.size := by omega
  obtain ⟨hb, hhb⟩ : ∃ hb, w.heap.size = hb := ⟨_, rfl⟩
  have hwb : w.heap.size ≤ hb := by omega
  have hbY : hb < Y.heap.size := by omega
  have hba : hb < ab := by omega
  rw [hhb] at hT
  simp only [hhb]
  clear hab hYs o0 c8 hhb
  have HSet : Hid (∀ V, Below Y.heap.size Y V → Calls Tryz.prog 173 #[.slice ay 64 cy, .int .i64 sl, .slice (some ⟨cb, so, none⟩) n cc] V fun e w' => ∃ xa na ca, e = .returned (.agg #[.int .i64 q, .int .i64 0, .slice xa na ca]) ∧ Below V.heap.size V w' ∧ (q = 0 → ∃ g, (xa = some ⟨g, 0, none⟩ ∧ na = 64 ∧ ca = 64) ∧ V.heap.size ≤ g ∧ Arr w' g ys)) := fun V hV => HSet0.out V (gY.trans (hV.mono gY.size))
  clear HSet0
  have HT : Hid (TcC hb ab ob gp pn sl m k2 cy ay Y) := hT
  go_cut [7] from 8 (fun s7 wc => ∃ (tb : Nat) (xa : Option Addr) (na ca : Nat), s7 = .pointer (some ⟨tb, 0, none⟩) ∧ Below Y.heap.size Y wc ∧ Y.heap.size ≤ tb ∧ PRes wc tb q 0 (.slice xa na ca) ∧ (q = 0 → ∃ g, (xa = some ⟨g, 0, none⟩ ∧ na = 64 ∧ ca = 64) ∧ Y.heap.size ≤ g ∧ Arr wc g ys))
  case first =>
    have gD : Below Y.heap.size Y Y.drew := (Below.refl _ Y).drew
    refine wp_norm ?_
    refine wp_region_held_drew (S := TcC hb ab ob gp pn sl m k2 cy ay) (by kernel_rfl) (hT.up gD) (fun hHeld => ?_)
    generalize Y.drew = D0 at hHeld gD ⊢
    clear hT
    refine tkH (i := 0) (v := ?v1) rfl (Or.inl ⟨by kernel_rfl, ?h1⟩) hHeld ?_
    case h1 => intro u hSw; (obtain ⟨r0, r1, r2, r3, r4⟩ := hSw); go_simp; try with_reducible rfl
    try simp only [Act.put, tdy]
    refine tkH (i := 1) (v := ?v2) rfl (Or.inl ⟨by kernel_rfl, ?h2⟩) hHeld ?_
    case h2 => intro u hSw; (obtain ⟨r0, r1, r2, r3, r4⟩ := hSw); go_simp; try with_reducible rfl
    try simp only [Act.put, tdy]
    refine tkH (i := 2) (v := ?v3) rfl (Or.inl ⟨by kernel_rfl, ?h3⟩) hHeld ?_
    case h3 => intro u hSw; (obtain ⟨r0, r1, r2, r3, r4⟩ := hSw); go_simp; try with_reducible rfl
    try simp only [Act.put, tdy]
    refine tkH (i := 3) (v := ?v4) rfl (Or.inl ⟨by kernel_rfl, ?h4⟩) hHeld ?_
    case h4 => intro u hSw; (obtain ⟨r0, r1, r2, r3, r4⟩ := hSw); go_simp; try with_reducible rfl
    try simp only [Act.put, tdy]
    refine tkH (i := 4) (v := ?v5) rfl (Or.inl ⟨by kernel_rfl, ?h5⟩) hHeld ?_
    case h5 => intro u hSw; (obtain ⟨r0, r1, r2, r3, r4⟩ := hSw); go_simp; try with_reducible rfl
    try simp only [Act.put, tdy]
    refine tkH (i := 5) (v := ?v6) rfl (Or.inl ⟨by kernel_rfl, ?h6⟩) hHeld ?_
    case h6 => intro u hSw; (obtain ⟨r0, r1, r2, r3, r4⟩ := hSw); go_simp; try with_reducible rfl
    try simp only [Act.put, tdy]
    refine tkH (i := 6) (v := ?v7) rfl (Or.inl ⟨by kernel_rfl, ?h7⟩) hHeld ?_
    case h7 => intro u hSw; (obtain ⟨r0, r1, r2, r3, r4⟩ := hSw); go_simp; try with_reducible rfl
    try simp only [Act.put, tdy]
    refine tkH (i := 7) (v := ?v8) rfl (Or.inl ⟨by kernel_rfl, ?h8⟩) hHeld ?_
    case h8 => intro u hSw; (obtain ⟨r0, r1, r2, r3, r4⟩ := hSw); go_simp; try with_reducible rfl
    try simp only [Act.put, tdy]
    refine tkH (i := 8) (v := ?v9) rfl (Or.inl ⟨by kernel_rfl, ?h9⟩) hHeld ?_
    case h9 => intro u hSw; (obtain ⟨r0, r1, r2, r3, r4⟩ := hSw); go_simp; try with_reducible rfl
    try simp only [Act.put, tdy]
    refine tkH (i := 9) (v := ?v10) rfl (Or.inl ⟨by kernel_rfl, ?h10⟩) hHeld ?_
    case h10 => intro u hSw; (obtain ⟨r0, r1, r2, r3, r4⟩ := hSw); go_simp; try with_reducible rfl
    try simp only [Act.put, tdy]
    refine tkH (i := 10) (v := ?v11) rfl (Or.inl ⟨by kernel_rfl, ?h11⟩) hHeld ?_
    case h11 => intro u hSw; clear hSw; go_simp; try with_reducible rfl
    try simp only [Act.put, tdy]
    refine wpAnyH_ready (rs := [11, 12]) (by kernel_rfl) (by simp) ?_
    refine AllReadyH.cons rfl (fun K hK => ?_) (AllReadyH.cons rfl (fun K hK => ?_) AllReadyH.nil)
    · go_simp
      go_wp2_with (go_at_call 173; refine (HSet.out _ gD).mono ?_; rintro e Z ⟨xa, na, ca, rfl, gg, y3⟩)
      refine hK.out _ _ (hHeld.up gg) (fun hHeld => ?_)
      clear hK K
      try simp only [Act.put, tdy]
      have hs0 := gD.size
      have gD := gD.trans (gg.mono gD.size)
      have hB : PRes (Z.alloc (.cells #[.int .i64 0, .int .i64 0, .slice none 0 0] 146)) Z.heap.size 0 0 (.slice none 0 0) := ⟨by simp [go_sem], by simp [go_sem], by simp [go_sem], by simp [go_sem], by simp [go_sem], by simp [go_sem]⟩
      have g2 : Below Z.heap.size Z (Z.alloc (.cells #[.int .i64 0, .int .i64 0, .slice none 0 0] 146)) := by go_grown
      have htb : Y.heap.size ≤ Z.heap.size := gD.size
      obtain ⟨l1, l2, l3, l4⟩ := hHeld.lts
      have n1 : hb ≠ Z.heap.size := by omega
      have n2 : ob ≠ Z.heap.size := by omega
      have n3 : ab ≠ Z.heap.size := by omega
      have n4 : gp ≠ Z.heap.size := by omega
      have y3 : q = 0 → ∃ g, (xa = some ⟨g, 0, none⟩ ∧ na = 64 ∧ ca = 64) ∧ Y.heap.size ≤ g ∧ Arr (Z.alloc (.cells #[.int .i64 0, .int .i64 0, .slice none 0 0] 146)) g ys ∧ g ≠ Z.heap.size := fun h0 => by
        obtain ⟨g, e1, e2, e3⟩ := y3 h0
        have := e3.lt
        exact ⟨g, e1, by omega, e3.grown g2, by omega⟩
      have gD := gD.trans (g2.mono gD.size)
      refine wpAnyH_ready (rs := [12]) (by kernel_rfl) (by simp) ?_
      refine AllReadyH.cons rfl (fun K hK => ?_) AllReadyH.nil
      go_simp
      refine hK.out _ _ (hHeld.up g2) (fun hHeld => ?_)
      clear hK K gg g2 l1 l2 l3 l4 hs0
      generalize Z.alloc (.cells #[.int .i64 0, .int .i64 0, .slice none 0 0] 146) = W at hB y3 hHeld gD ⊢
      generalize Z.heap.size = tb at hB y3 htb n1 n2 n3 n4 ⊢
      try simp only [Act.put, tdy]
      refine wpAnyH_ready (rs := [13]) (by kernel_rfl) (by simp) ?_
      refine AllReadyH.cons rfl (fun K hK => ?_) AllReadyH.nil
      obtain ⟨a0, a1, a2, f0, f1, f2⟩ := hB
      go_simp
      refine hK.out _ _ (((hHeld.put n1 n2 n3 n4 0 _).put n1 n2 n3 n4 1 _).put n1 n2 n3 n4 2 _) (fun hHeld => ?_)
      clear hK K
      try simp only [Act.put, tdy]
      refine wpAnyH_done (by kernel_rfl) ?_ _
      dsimp only [qNorm]
      have b3 : PRes (((W.setCell ⟨tb, 0, none⟩ (.int .i64 q)).setCell ⟨tb, 1, none⟩ (.int .i64 0)).setCell ⟨tb, 2, none⟩ (.slice xa na ca)) tb q 0 (.slice xa na ca) := ⟨by simp [go_sem, a0], by simp [go_sem, a1], by simp [go_sem, a2], by simp [go_sem, f0], by simp [go_sem, f1], by simp [go_sem, f2]⟩
      have T : Turned tb (tb + 1) W (((W.setCell ⟨tb, 0, none⟩ (.int .i64 q)).setCell ⟨tb, 1, none⟩ (.int .i64 0)).setCell ⟨tb, 2, none⟩ (.slice xa na ca)) := (((Turned.refl _ _ W).setCell (p := ⟨tb, 0, none⟩) (Nat.le_refl _) (Nat.lt_succ_self _) _).setCell (p := ⟨tb, 1, none⟩) (Nat.le_refl _) (Nat.lt_succ_self _) _).setCell (p := ⟨tb, 2, none⟩) (Nat.le_refl _) (Nat.lt_succ_self _) _
      have gE := gD.trans (T.toBelow gD.size htb)
      have y3 : q = 0 → ∃ g, (xa = some ⟨g, 0, none⟩ ∧ na = 64 ∧ ca = 64) ∧ Y.heap.size ≤ g ∧ Arr (((W.setCell ⟨tb, 0, none⟩ (.int .i64 q)).setCell ⟨tb, 1, none⟩ (.int .i64 0)).setCell ⟨tb, 2, none⟩ (.slice xa na ca)) g ys := fun h0 => by
        obtain ⟨g, e1, e2, e3, e4⟩ := y3 h0
        exact ⟨g, e1, e2, ((e3.other _ _ (by simp; omega)).other _ _ (by simp; omega)).other _ _ (by simp; omega)⟩
      go_wp2_with fail
      go_meet
      case rel => exact ⟨tb, xa, na, ca, rfl, gE, htb, b3, y3⟩
    · have hB : PRes (D0.alloc (.cells #[.int .i64 0, .int .i64 0, .slice none 0 0] 146)) D0.heap.size 0 0 (.slice none 0 0) := ⟨by simp [go_sem], by simp [go_sem], by simp [go_sem], by simp [go_sem], by simp [go_sem], by simp [go_sem]⟩
      have g2 : Below D0.heap.size D0 (D0.alloc (.cells #[.int .i64 0, .int .i64 0, .slice none 0 0] 146)) := by go_grown
      have htb : Y.heap.size ≤ D0.heap.size := gD.size
      obtain ⟨l1, l2, l3, l4⟩ := hHeld.lts
      have n1 : hb ≠ D0.heap.size := by omega
      have n2 : ob ≠ D0.heap.size := by omega
      have n3 : ab ≠ D0.heap.size := by omega
      have n4 : gp ≠ D0.heap.size := by omega
      have gD := gD.trans (g2.mono gD.size)
      go_simp
      refine hK.out _ _ (hHeld.up g2) (fun hHeld => ?_)
      clear hK K g2 l1 l2 l3 l4
      generalize D0.alloc (.cells #[.int .i64 0, .int .i64 0, .slice none 0 0] 146) = W at hB hHeld gD ⊢
      generalize D0.heap.size = tb at hB htb n1 n2 n3 n4 ⊢
      try simp only [Act.put, tdy]
      refine wpAnyH_ready (rs := [11]) (by kernel_rfl) (by simp) ?_
      refine AllReadyH.cons rfl (fun K hK => ?_) AllReadyH.nil
      go_simp
      go_wp2_with (go_at_call 173; refine (HSet.out _ gD).mono ?_; rintro e Z ⟨xa, na, ca, rfl, gg, y3⟩)
      refine hK.out _ _ (hHeld.up gg) (fun hHeld => ?_)
      clear hK K
      try simp only [Act.put, tdy]
      have hbl := hB.lt
      have hs0 := gD.size
      have hB := hB.grown gg
      have gD := gD.trans (gg.mono gD.size)
      have y3 : q = 0 → ∃ g, (xa = some ⟨g, 0, none⟩ ∧ na = 64 ∧ ca = 64) ∧ Y.heap.size ≤ g ∧ Arr Z g ys ∧ g ≠ tb := fun h0 => by
        obtain ⟨g, e1, e2, e3⟩ := y3 h0
        exact ⟨g, e1, by omega, e3, by omega⟩
      clear gg hbl hs0
      refine wpAnyH_ready (rs := [13]) (by kernel_rfl) (by simp) ?_
      refine AllReadyH.cons rfl (fun K hK => ?_) AllReadyH.nil
      obtain ⟨a0, a1, a2, f0, f1, f2⟩ := hB
      go_simp
      refine hK.out _ _ (((hHeld.put n1 n2 n3 n4 0 _).put n1 n2 n3 n4 1 _).put n1 n2 n3 n4 2 _) (fun hHeld => ?_)
      clear hK K
      try simp only [Act.put, tdy]
      refine wpAnyH_done (by kernel_rfl) ?_ _
      dsimp only [qNorm]
      have b3 : PRes (((Z.setCell ⟨tb, 0, none⟩ (.int .i64 q)).setCell ⟨tb, 1, none⟩ (.int .i64 0)).setCell ⟨tb, 2, none⟩ (.slice xa na ca)) tb q 0 (.slice xa na ca) := ⟨by simp [go_sem, a0], by simp [go_sem, a1], by simp [go_sem, a2], by simp [go_sem, f0], by simp [go_sem, f1], by simp [go_sem, f2]⟩
      have T : Turned tb (tb + 1) Z (((Z.setCell ⟨tb, 0, none⟩ (.int .i64 q)).setCell ⟨tb, 1, none⟩ (.int .i64 0)).setCell ⟨tb, 2, none⟩ (.slice xa na ca)) := (((Turned.refl _ _ Z).setCell (p := ⟨tb, 0, none⟩) (Nat.le_refl _) (Nat.lt_succ_self _) _).setCell (p := ⟨tb, 1, none⟩) (Nat.le_refl _) (Nat.lt_succ_self _) _).setCell (p := ⟨tb, 2, none⟩) (Nat.le_refl _) (Nat.lt_succ_self _) _
      have gE := gD.trans (T.toBelow gD.size htb)
      have y3 : q = 0 → ∃ g, (xa = some ⟨g, 0, none⟩ ∧ na = 64 ∧ ca = 64) ∧ Y.heap.size ≤ g ∧ Arr (((Z.setCell ⟨tb, 0, none⟩ (.int .i64 q)).setCell ⟨tb, 1, none⟩ (.int .i64 0)).setCell ⟨tb, 2, none⟩ (.slice xa na ca)) g ys := fun h0 => by
        obtain ⟨g, e1, e2, e3, e4⟩ := y3 h0
        exact ⟨g, e1, e2, ((e3.other _ _ (by simp; omega)).other _ _ (by simp; omega)).other _ _ (by simp; omega)⟩
      go_wp2_with fail
      go_meet
      case rel => exact ⟨tb, xa, na, ca, rfl, gE, htb, b3, y3⟩
  case rest =>
    obtain ⟨tb, xa, na, ca, rfl, gc, htb, hP, hyg⟩ := hcut
    have hTc := HT.out.up gc
    have hgw := gY.trans (gc.mono gY.size)
    have htl := hP.lt
    have hxs := HX.out.below hgw
    have hfin : ∀ g', sb g' → wc.heap[g']? = B g' := fun g' hg' => hxs.b g' hg'
    clear hT
    by_cases h0 : q = 0
    · obtain ⟨g, ⟨rfl, rfl, rfl⟩, hgY, hA⟩ := hyg h0
      subst h0
      have hPf : Fine ys := by rw [← HYs.out]; exact fine_set hF hh.lt (hh.nz hF) HC.out.bd (by omega) HQ.out
      have hfr := HX.out.fresh (V := w) (g := g) (by have := gY.size; omega) (o := 0) (n := 64) (c := 64)
      have hput := putEdit_any sb B n₀ X ob es cur x1 k1 V1 (some ⟨gp, 0, none⟩) k2 V2 pn (some ⟨g, 0, none⟩) 64 ys wc hxs (by have := HM.out; omega) HOk.out.bd hPf.pg.bd hPf.pg.len (by have := HM.out; omega) (by omega) (hA.gb (by have := gY.size; omega)) hfr.1 hfr.2
      have HPut : Hid (Calls Tryz.prog 86 #[.pointer (some ⟨ob, 0, none⟩), .int .i64 pn, .slice (some ⟨g, 0, none⟩) 64 64] wc fun e w' => TxPost sb B n₀ X ob (tnE es cur pn ys) (wpL cur pn ys) e w') := hput
      have HE : Hid (stS (es, cur) pn sl old cs = ((tnE es cur pn ys, wpL cur pn ys), true)) := by show _ = _; unfold stS; rw [if_pos HQ.out, HYs.out]; rfl
      obtain ⟨p0, p1, p2, f0, f1, f2⟩ := hP
      obtain ⟨t0, t1, t2, t3, t4⟩ := hTc
      clear hput hA hfr hxs hyg
      go_wp2_with fail
      refine leaves_cons (f := 174) (args := #[.pointer (some ⟨tb, 0, none⟩), .pointer (some ⟨hb, 0, none⟩), .pointer (some ⟨ab, 0, none⟩)]) (by simp) (by simp [go_sem]) ?_
      refine (turnCl_yes tb hb ab ob pn 64 (some ⟨g, 0, none⟩) _ .returning wc p0 p2 t0 t2 HPut.out).mono ?_
      rintro e u' w9 ⟨rfl, rfl, hR⟩
      refine ⟨.bool true, by simp [results, Tryz.results124, go_sem], ?_⟩
      rw [HE.out]
      exact ⟨rfl, hR⟩
    · clear hyg
      by_cases h8 : q = 8
      · subst h8
        have hxP := HX.out.more (P := tcP sb hb ab tb) (V' := wc) hgw (fun g' hg' => by
          rcases hg' with h | h | h | h
          · exact .inl h
          · exact .inr (by have := gc.size; omega)
          · exact .inr (by have := gc.size; omega)
          · exact .inr (by have := gY.size; omega))
        have hcm := compact_any (tcP sb hb ab tb) _ n₀ X ob es cur x1 k1 V1 (some ⟨gp, 0, none⟩) k2 V2 pn old wc hxP HOk.out (by have := HM.out; omega) (by omega) HOld.out
        have HCm : Hid (Calls Tryz.prog 105 #[.pointer (some ⟨ob, 0, none⟩), .int .i64 pn] wc fun e w' => TxPost (tcP sb hb ab tb) (fun g' => wc.heap[g']?) n₀ X ob (tnE es cur pn (cpL old)) (wpL cur pn (cpL old)) e w') := hcm
        have HP : Hid (PRes wc tb 8 0 (.slice xa na ca)) := hP
        have HTc : Hid (TcC hb ab ob gp pn sl m k2 cy ay wc) := hTc
        obtain ⟨p0, p1, p2, f0, f1, f2⟩ := hP
        obtain ⟨t0, t1, t2, t3, t4⟩ := hTc
        clear hcm hxP hxs h0
        go_wp2_with fail
        refine HCm.out.mono ?_
        rintro e w3 ⟨rfl, y1, m1, W1, y2, m2, W2, hx3⟩
        clear p0 p1 p2 f0 f1 f2 t0 t1 t2 t3 t4 HCm
        have hCf : Fine (cpL old) := fine_compact hF
        have hh2 := hh.cp hF
        have hold3 : (wpL cur pn (cpL old))[pn]? = some (cpL old) := wpL_at (by have := HM.out; omega)
        have hlen3 : (wpL cur pn (cpL old)).length = m := by rw [wpL_len (by have := HM.out; omega)]; exact HM.out
        have hok3 : okP (wpL cur pn (cpL old)) := HOk.out.turn pn hCf
        have hel3 : (tnE es cur pn (cpL old)).length ≤ 901 := by have := tn_len es cur pn (cpL old); omega
        obtain ⟨es3, hes⟩ : ∃ es3, tnE es cur pn (cpL old) = es3 := ⟨_, rfl⟩
        obtain ⟨cur3, hcu⟩ : ∃ cur3, wpL cur pn (cpL old) = cur3 := ⟨_, rfl⟩
        rw [hes, hcu] at hx3
        rw [hes] at hel3
        rw [hcu] at hold3 hlen3 hok3
        have HTn : Hid (tnS (es, cur) pn (cpL old) = (es3, cur3)) := by show _ = _; unfold tnS; dsimp only; rw [hes, hcu]
        clear hes hcu
        obtain ⟨gp3, ay3, cy3, rfl, c83, hyr3, hyl3⟩ := hx3.page hold3
        rw [hCf.pg.len] at c83 hyl3
        have ho3 := hx3.o
        rw [hlen3] at ho3
        have hP3 := HP.out.of_block (hx3.b tb (.inr (.inr (.inr rfl))))
        have hT3 : TcC hb ab ob gp3 pn sl m m2 cy3 ay3 w3 := ⟨(World.cell?_of_block (a := ⟨hb, 0, none⟩) (hx3.b hb (.inr (.inl rfl)))).trans HTc.out.h0, ho3.1, (World.cell?_of_block (a := ⟨ab, 0, none⟩) (hx3.b ab (.inr (.inr (.inl rfl))))).trans HTc.out.a0, (World.cell?_of_block (a := ⟨ab, 1, none⟩) (hx3.b ab (.inr (.inr (.inl rfl))))).trans HTc.out.a1, c83⟩
        have hbb3 : ∀ g', sb g' → w3.heap[g']? = B g' := fun g' hg' => (hx3.b g' (.inl hg')).trans (hfin g' hg')
        have htb3 : tb < w3.heap.size := hx3.ls tb (.inr (.inr (.inr rfl)))
        have n1 : hb ≠ tb := by omega
        have n2 : ob ≠ tb := fun e => hx3.m3 tb (.inr (.inr (.inr rfl))) e.symm
        have n3 : ab ≠ tb := by omega
        have n4 : gp3 ≠ tb := fun e => hx3.m2 tb (.inr (.inr (.inr rfl))) (.inl (by rw [e]; rfl))
        obtain ⟨q, hq⟩ : ∃ q, setQ (cpL old) sl n = q := ⟨_, rfl⟩
        obtain ⟨ys, hys⟩ : ∃ ys, setP (cpL old) sl cs = ys := ⟨_, rfl⟩
        have HQ2 : Hid (setQ (cpL old) sl cs.length = q) := by show _ = _; rw [hcn]; exact hq
        have HYs2 : Hid (setP (cpL old) sl cs = ys) := hys
        have HSet3 : Hid (∀ V, Below w3.heap.size w3 V → Calls Tryz.prog 173 #[.slice ay3 64 cy3, .int .i64 sl, .slice (some ⟨cb, so, none⟩) n cc] V fun e w' => ∃ xa na ca, e = .returned (.agg #[.int .i64 q, .int .i64 0, .slice xa na ca]) ∧ Below V.heap.size V w' ∧ (q = 0 → ∃ g, (xa = some ⟨g, 0, none⟩ ∧ na = 64 ∧ ca = 64) ∧ V.heap.size ≤ g ∧ Arr w' g ys)) := fun V hV => by
          rw [← hys]
          obtain ⟨W, hW, hrw⟩ := HC.out.rd
          exact setSlot_w ay3 (cpL old) cs cy3 sl cb so n cc V hCf hyl3 (hyr3.below hV (Nat.le_refl _)) hh2 hcn h1 h20 HC.out.bd ((hx3.below hV).rd (.inl HC.out.i) (hW.trans ((hbb3 cb HC.out.i).symm.trans (hx3.b cb (.inl HC.out.i)))) hrw) hq
        have HX3 : Hid (HpX (tcP sb hb ab tb) (fun g' => wc.heap[g']?) n₀ X ob es3 cur3 y1 m1 W1 (some ⟨gp3, 0, none⟩) m2 W2 w3) := hx3
        clear hx3 c83 hyr3 ho3 hq hys HSet HP HTc
        go_upto_region 5 with (fail)
        have gD : Below w3.heap.size w3 w3.drew := (Below.refl _ w3).drew
        refine wp_norm ?_
        refine wp_region_held_drew (S := TcC hb ab ob gp3 pn sl m m2 cy3 ay3) (by kernel_rfl) (hT3.up gD) (fun hHeld => ?_)
        generalize w3.drew = D0 at hHeld gD ⊢
        clear hT3
        refine tkH (i := 0) (v := ?v12) rfl (Or.inl ⟨by kernel_rfl, ?h12⟩) hHeld ?_
        case h12 => intro u hSw; (obtain ⟨r0, r1, r2, r3, r4⟩ := hSw); go_simp; try with_reducible rfl
        try simp only [Act.put, tdy]
        refine tkH (i := 1) (v := ?v13) rfl (Or.inl ⟨by kernel_rfl, ?h13⟩) hHeld ?_
        case h13 => intro u hSw; (obtain ⟨r0, r1, r2, r3, r4⟩ := hSw); go_simp; try with_reducible rfl
        try simp only [Act.put, tdy]
        refine tkH (i := 2) (v := ?v14) rfl (Or.inl ⟨by kernel_rfl, ?h14⟩) hHeld ?_
        case h14 => intro u hSw; (obtain ⟨r0, r1, r2, r3, r4⟩ := hSw); go_simp; try with_reducible rfl
        try simp only [Act.put, tdy]
        refine tkH (i := 3) (v := ?v15) rfl (Or.inl ⟨by kernel_rfl, ?h15⟩) hHeld ?_
        case h15 => intro u hSw; (obtain ⟨r0, r1, r2, r3, r4⟩ := hSw); go_simp; try with_reducible rfl
        try simp only [Act.put, tdy]
        refine tkH (i := 4) (v := ?v16) rfl (Or.inl ⟨by kernel_rfl, ?h16⟩) hHeld ?_
        case h16 => intro u hSw; (obtain ⟨r0, r1, r2, r3, r4⟩ := hSw); go_simp; try with_reducible rfl
        try simp only [Act.put, tdy]
        refine tkH (i := 5) (v := ?v17) rfl (Or.inl ⟨by kernel_rfl, ?h17⟩) hHeld ?_
        case h17 => intro u hSw; (obtain ⟨r0, r1, r2, r3, r4⟩ := hSw); go_simp; try with_reducible rfl
        try simp only [Act.put, tdy]
        refine tkH (i := 6) (v := ?v18) rfl (Or.inl ⟨by kernel_rfl, ?h18⟩) hHeld ?_
        case h18 => intro u hSw; (obtain ⟨r0, r1, r2, r3, r4⟩ := hSw); go_simp; try with_reducible rfl
        try simp only [Act.put, tdy]
        refine tkH (i := 7) (v := ?v19) rfl (Or.inl ⟨by kernel_rfl, ?h19⟩) hHeld ?_
        case h19 => intro u hSw; (obtain ⟨r0, r1, r2, r3, r4⟩ := hSw); go_simp; try with_reducible rfl
        try simp only [Act.put, tdy]
        refine tkH (i := 8) (v := ?v20) rfl (Or.inl ⟨by kernel_rfl, ?h20⟩) hHeld ?_
        case h20 => intro u hSw; (obtain ⟨r0, r1, r2, r3, r4⟩ := hSw); go_simp; try with_reducible rfl
        try simp only [Act.put, tdy]
        refine tkH (i := 9) (v := ?v21) rfl (Or.inl ⟨by kernel_rfl, ?h21⟩) hHeld ?_
        case h21 => intro u hSw; (obtain ⟨r0, r1, r2, r3, r4⟩ := hSw); go_simp; try with_reducible rfl
        try simp only [Act.put, tdy]
        refine tkH (i := 10) (v := ?v22) rfl (Or.inl ⟨by kernel_rfl, ?h22⟩) hHeld ?_
        case h22 => intro u hSw; clear hSw; go_simp; try with_reducible rfl
        try simp only [Act.put, tdy]
        refine wpAnyH_ready (rs := [11]) (by kernel_rfl) (by simp) ?_
        refine AllReadyH.cons rfl (fun K hK => ?_) AllReadyH.nil
        go_simp
        go_wp2_with (go_at_call 173; refine (HSet3.out _ gD).mono ?_; rintro e Z ⟨xa, na, ca, rfl, gg, y3⟩)
        refine hK.out _ _ (hHeld.up gg) (fun hHeld => ?_)
        clear hK K
        try simp only [Act.put, tdy]
        have hs0 := gD.size
        have gD := gD.trans (gg.mono gD.size)
        have hB := hP3.below gD htb3
        clear gg
        refine wpAnyH_ready (rs := [12]) (by kernel_rfl) (by simp) ?_
        refine AllReadyH.cons rfl (fun K hK => ?_) AllReadyH.nil
        obtain ⟨a0, a1, a2, f0, f1, f2⟩ := hB
        go_simp
        refine hK.out _ _ (((hHeld.put n1 n2 n3 n4 0 _).put n1 n2 n3 n4 1 _).put n1 n2 n3 n4 2 _) (fun hHeld => ?_)
        clear hK K
        try simp only [Act.put, tdy]
        refine wpAnyH_done (by kernel_rfl) ?_ _
        dsimp only [qNorm]
        have b3 : PRes (((Z.setCell ⟨tb, 0, none⟩ (.int .i64 q)).setCell ⟨tb, 1, none⟩ (.int .i64 0)).setCell ⟨tb, 2, none⟩ (.slice xa na ca)) tb q 0 (.slice xa na ca) := ⟨by simp [go_sem, a0], by simp [go_sem, a1], by simp [go_sem, a2], by simp [go_sem, f0], by simp [go_sem, f1], by simp [go_sem, f2]⟩
        have hn0 : n₀ ≤ tb := by have := gY.size; omega
        have hx5 := (((HX3.out.below gD).put (g := tb) (o := 0) (.inr (.inr (.inr rfl))) hn0 (.int .i64 q)).put (g := tb) (o := 1) (.inr (.inr (.inr rfl))) hn0 (.int .i64 0)).put (g := tb) (o := 2) (.inr (.inr (.inr rfl))) hn0 (.slice xa na ca)
        have hbs5 : ∀ g', sb g' → (((Z.setCell ⟨tb, 0, none⟩ (.int .i64 q)).setCell ⟨tb, 1, none⟩ (.int .i64 0)).setCell ⟨tb, 2, none⟩ (.slice xa na ca)).heap[g']? = B g' := fun g' hg' => by
          have h1 := hls g' hg'
          have h2 := gY.size
          rw [Below.heap_setCell _ _ _ _ (by simp; omega), Below.heap_setCell _ _ _ _ (by simp; omega), Below.heap_setCell _ _ _ _ (by simp; omega), gD.block g' (HX3.out.ls g' (.inl hg'))]
          exact hbb3 g' hg'
        have hxs5 := hx5.less (fun g' hg' => .inl hg') hbs5
        have y5 : q = 0 → ∃ g, (xa = some ⟨g, 0, none⟩ ∧ na = 64 ∧ ca = 64) ∧ w3.heap.size ≤ g ∧ Arr (((Z.setCell ⟨tb, 0, none⟩ (.int .i64 q)).setCell ⟨tb, 1, none⟩ (.int .i64 0)).setCell ⟨tb, 2, none⟩ (.slice xa na ca)) g ys := fun h => by
          obtain ⟨g, e1, e2, e3⟩ := y3 h
          exact ⟨g, e1, by omega, ((e3.other _ _ (by simp; omega)).other _ _ (by simp; omega)).other _ _ (by simp; omega)⟩
        clear hx5 hbs5 y3 gD a0 a1 a2 f0 f1 f2 hs0
        generalize (((Z.setCell ⟨tb, 0, none⟩ (.int .i64 q)).setCell ⟨tb, 1, none⟩ (.int .i64 0)).setCell ⟨tb, 2, none⟩ (.slice xa na ca)) = W5 at hHeld b3 hxs5 y5 ⊢
        by_cases h0 : q = 0
        · obtain ⟨g, ⟨rfl, rfl, rfl⟩, hg3, hA⟩ := y5 h0
          subst h0
          have hPf : Fine ys := by rw [← HYs2.out]; exact fine_set hCf hh2.lt (hh2.nz hCf) HC.out.bd (by omega) HQ2.out
          have hfr := HX3.out.fresh (g := g) hg3 (o := 0) (n := 64) (c := 64)
          have hput := putEdit_any sb B n₀ X ob es3 cur3 y1 m1 W1 (some ⟨gp3, 0, none⟩) m2 W2 pn (some ⟨g, 0, none⟩) 64 ys W5 hxs5 (by have := HM.out; omega) hok3.bd hPf.pg.bd hPf.pg.len (by have := HM.out; omega) (by omega) (hA.gb (by omega)) hfr.1 (fun q' e hq' => hfr.2 q' e (.inl hq'))
          have HPut : Hid (Calls Tryz.prog 86 #[.pointer (some ⟨ob, 0, none⟩), .int .i64 pn, .slice (some ⟨g, 0, none⟩) 64 64] W5 fun e w' => TxPost sb B n₀ X ob (tnE es3 cur3 pn ys) (wpL cur3 pn ys) e w') := hput
          have HE : Hid (stS (es, cur) pn sl old cs = ((tnE es3 cur3 pn ys, wpL cur3 pn ys), true)) := by show _ = _; unfold stS; rw [HQ.out, if_neg (by decide), if_pos rfl, if_pos HQ2.out, HTn.out, HYs2.out]; rfl
          obtain ⟨p0, p1, p2, f0, f1, f2⟩ := b3
          obtain ⟨t0, t1, t2, t3, t4⟩ := hHeld
          clear hput hA hfr hxs5 y5
          go_wp2_with fail
          refine leaves_cons (f := 174) (args := #[.pointer (some ⟨tb, 0, none⟩), .pointer (some ⟨hb, 0, none⟩), .pointer (some ⟨ab, 0, none⟩)]) (by simp) (by simp [go_sem]) ?_
          refine (turnCl_yes tb hb ab ob pn 64 (some ⟨g, 0, none⟩) _ .returning W5 p0 p2 t0 t2 HPut.out).mono ?_
          rintro e u' w9 ⟨rfl, rfl, hR⟩
          refine ⟨.bool true, by simp [results, Tryz.results124, go_sem], ?_⟩
          rw [HE.out]
          exact ⟨rfl, hR⟩
        · have HE : Hid (stS (es, cur) pn sl old cs = ((es3, cur3), false)) := by show _ = _; unfold stS; rw [HQ.out, if_neg (by decide), if_pos rfl, if_neg (by rw [HQ2.out]; exact h0), HTn.out]
          have HXs : Hid (R3X sb B n₀ X ob es3 cur3 W5) := ⟨_, _, _, _, _, _, hxs5⟩
          obtain ⟨p0, p1, p2, f0, f1, f2⟩ := b3
          obtain ⟨t0, t1, t2, t3, t4⟩ := hHeld
          have d0 : (q == 0) = false := by simpa using h0
          clear hxs5 y5
          go_wp2_with fail
          refine leaves_cons (f := 174) (args := #[.pointer (some ⟨tb, 0, none⟩), .pointer (some ⟨hb, 0, none⟩), .pointer (some ⟨ab, 0, none⟩)]) (by simp) (by simp [go_sem]) ?_
          refine (turnCl_no tb hb ab q .returning W5 p0 h0).mono ?_
          rintro e u' w9 ⟨rfl, rfl, rfl⟩
          refine ⟨.bool false, by simp [results, Tryz.results124, go_sem], ?_⟩
          rw [HE.out]
          exact ⟨rfl, HXs.out⟩
      · have HE : Hid (stS (es, cur) pn sl old cs = ((es, cur), false)) := by show _ = _; unfold stS; rw [HQ.out, if_neg h0, if_neg h8]
        have HXs : Hid _ := hxs
        obtain ⟨p0, p1, p2, f0, f1, f2⟩ := hP
        obtain ⟨t0, t1, t2, t3, t4⟩ := hTc
        have d0 : (q == 0) = false := by simpa using h0
        have d8 : (q == 8) = false := by simpa using h8
        clear hxs h8
        go_wp2_with fail
        refine leaves_cons (f := 174) (args := #[.pointer (some ⟨tb, 0, none⟩), .pointer (some ⟨hb, 0, none⟩), .pointer (some ⟨ab, 0, none⟩)]) (by simp) (by simp [go_sem]) ?_
        refine (turnCl_no tb hb ab q .returning wc p0 h0).mono ?_
        rintro e u' w9 ⟨rfl, rfl, rfl⟩
        refine ⟨.bool false, by simp [results, Tryz.results124, go_sem], ?_⟩
        rw [HE.out]
        exact ⟨rfl, _, _, _, _, _, _, HXs.out⟩

end Go.Proofs.YtnfolgoloaeanaaGreat

