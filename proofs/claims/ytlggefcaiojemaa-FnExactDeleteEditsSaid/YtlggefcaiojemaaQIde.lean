/-
  The program's DeleteEdits.
-/
import Derived.Test.YtlggefcaiojemaaQHom
import Derived.Test.YtlggefcaiojemaaQMde
import Derived.Laws.StructEq

namespace Go.Proofs.Ytlggefcaiojemaa
open Go.RowKit
set_option linter.unusedVariables false

theorem neq_place (a b c d : Int) (W : World) : (binOp .neq 62 (.agg #[.int .i64 a, .int .i64 b]) (.agg #[.int .i64 c, .int .i64 d])).run Try.prog W = .ok (.bool (!(a == c && b == d))) W := by
  by_cases h1 : a = c <;> by_cases h2 : b = d <;> simp [go_sem, h1, h2]

/-- Where the cell of what is found stands: there, or where the stub tells. -/
theorem FndAt.home {ps : List (List Int)} {z : Spt} {pn sn : Nat} {zs : List Int} (h : FndAt ps z pn sn zs) : ∃ pm sm : Nat, homV (unp (cellOf zs sn)) pn sn = .agg #[.int .i64 pm, .int .i64 sm] ∧
    ((pm = pn ∧ sm = sn ∧ delR ps z = ([] ++ [((pn : Int), drpP zs sn)], ps.set pn (drpP zs sn))) ∨
     (¬ (pm = pn ∧ sm = sn) ∧ ∃ ys, CelIn (ps.set pn (drpP zs sn)) pm sm ys ∧ delR ps z = (([] ++ [((pn : Int), drpP zs sn)]) ++ [((pm : Int), drpP ys sm)], (ps.set pn (drpP zs sn)).set pm (drpP ys sm)))) := by
  rcases h.f2 with hf | hf
  · refine ⟨pn, sn, ?_, .inl ⟨rfl, rfl, h.row hf⟩⟩
    unfold homV
    rw [h.f, if_neg (by omega)]
  · obtain ⟨pm, sm, ys, e1, e2, hn, hc, hd⟩ := h.two hf
    refine ⟨pm, sm, ?_, .inr ⟨hn, ys, hc, hd⟩⟩
    unfold homV
    rw [h.f, if_pos hf, (h.tp hf).1, (h.tp hf).2, e1, e2]

set_option maxRecDepth 20000 in
set_option maxHeartbeats 4000000 in
theorem implDeleteEdits_any (a : Option Addr) (ps : List (List Int)) (n c : Nat) (t k : Int) (w : World) (hn : ps.length = n) (hm : n ≤ 1048576) (hp : PgOk ps) (hr : PgRdN w a ps) (hrd : PgRead w a ps) :
    Calls Try.prog 8 #[.slice a n c, .int .i64 t, .int .i64 k] w fun e w' => AePost (deQ ps t k) (deE ps t k) (deP ps t k) w e w' := by
  have hO := Rs3.new w
  have gY : Below w.heap.size w (w.alloc (.cells #[.int .i64 0, .slice none 0 0, .slice none 0 0] 26)) := by go_grown
  obtain ⟨Y, hY⟩ : ∃ Y, w.alloc (.cells #[.int .i64 0, .slice none 0 0, .slice none 0 0] 26) = Y := ⟨_, rfl⟩
  rw [hY] at hO gY
  have hwY : w.heap.size < Y.heap.size := World.block_lt_of_cell? Y _ hO.c0
  have hfr := implFindRow_any a ps n c t k Y hn (by omega) hp (hrd.below gY (Nat.le_refl _))
  rcases find_deZ hp t k with ⟨z, hz, hfe, hq0⟩ | ⟨hz, q, hfe, hqn, hqq⟩
  · rw [hfe] at hfr
    simp only [toPl, plV] at hfr
    obtain ⟨hvw, _, _, pn, sn, zs, hZ⟩ := deZ_at hp hz
    obtain ⟨e1, e2⟩ := deZ_some hz
    have h12 := (view_zero hvw).1
    have HEe : Hid (deQ ps t k = 0 ∧ deE ps t k = (delR ps z).1 ∧ deP ps t k = (delR ps z).2) := ⟨hq0, e1, e2⟩
    rw [hZ.p, hZ.s] at hfr
    obtain ⟨pm, sm, HV, hcase⟩ := hZ.home
    have hC := hZ.c
    have hnl : ps.length ≤ 12 := h12
    generalize z.c.t = zt, z.c.k = zk, z.c.v = zv, z.c.s = zst at hfr
    have HC : Hid (CelIn ps pn sn zs) := hC
    have HVh : Hid (homV (unp (cellOf zs sn)) pn sn = .agg #[.int .i64 pm, .int .i64 sm]) := HV
    have hneq : ∀ W, (binOp .neq 62 (.agg #[.int .i64 (pm : Int), .int .i64 (sm : Int)]) (.agg #[.int .i64 (pn : Int), .int .i64 (sn : Int)])).run Try.prog W = .ok (.bool (!(((pm : Nat) : Int) == ((pn : Nat) : Int) && ((sm : Nat) : Int) == ((sn : Nat) : Int)))) W := fun W => neq_place _ _ _ _ W
    have HCase : Hid _ := hcase
    clear hz hq0 e1 e2 hvw hfe hZ hC HV hcase
    go_enter Try.func8, Try.ntmps8
    go_upto_region 2 with (go_at_call 27; refine hfr.mono ?_; rintro e w1 ⟨rfl, g1⟩; clear hfr)
    generalize hU : World.alloc w1 _ = U
    have gU : Below w1.heap.size w1 U := by
      rw [← hU]
      go_grown
    have u0 : U.cell? ⟨w1.heap.size, 0, none⟩ = some (.int .i64 0) := by rw [← hU]; simp [go_sem]
    have u1 : U.cell? ⟨w1.heap.size, 1, none⟩ = some (.int .i64 (pn : Nat)) := by rw [← hU]; simp [go_sem]
    have u2 : U.cell? ⟨w1.heap.size, 2, none⟩ = some (.int .i64 (sn : Nat)) := by rw [← hU]; simp [go_sem]
    clear hU
    have gA : Below Y.heap.size Y U := g1.trans (gU.mono g1.size)
    have hfb : w1.heap.size < U.heap.size := World.block_lt_of_cell? U _ u0
    generalize w1.heap.size = fb at u0 u1 u2 hfb ⊢
    have how := ownPages_any a ps n c U hn hm hp ((hr.below gY (Nat.le_refl _)).below gA (Nat.le_refl _))
    have hwU : w.heap.size < U.heap.size := Nat.lt_of_lt_of_le hwY gA.size
    have HO : Hid (∀ V, Below U.heap.size U V → Rs3 V w.heap.size) := fun V hV => (hO.below gA hwY).below hV hwU
    have HG : Hid (∀ V, Below U.heap.size U V → Below w.heap.size w V) := fun V hV => gY.trans ((gA.trans (hV.mono gA.size)).mono gY.size)
    have HL : Hid (ps.length = n) := hn
    clear gU g1 gA hr hrd hO gY hY hn
    go_upto_region 5 with (go_at_call 28; refine how.mono ?_; rintro e w2 ⟨v2, V2, rfl, g2, hP, hS2⟩; obtain ⟨x2, k2, hv2, _⟩ := hP.own hS2; subst hv2; clear how)
    have hs2 := g2.size
    have gY2 : Below w2.heap.size w2 (w2.alloc (.cells #[.slice x2 ps.length k2, .slice none 0 0] 60)) := (Below.refl _ w2).alloc (Nat.le_refl _) _
    have hSt : HpS U.heap.size U w2.heap.size [] ps none 0 [] x2 k2 V2 (w2.alloc (.cells #[.slice x2 ps.length k2, .slice none 0 0] 60)) := ⟨⟨EdB.nil _ _, hP.below gY2, fun i j u u' g _ h => by simp at h, hS2, fun g h => by rcases h with h | ⟨u, hu, _⟩; cases h; simp at hu⟩, ⟨by simp [go_sem], by simp [go_sem], by simp [go_sem], by simp [go_sem]⟩, fun h => by rcases h with h | ⟨u, hu, _⟩; cases h; simp at hu, fun h => Nat.lt_irrefl _ (hP.lt h).2, g2.trans (gY2.mono hs2), hs2⟩
    clear hP hS2 g2 gY2 hs2
    generalize w2.heap.size = ob at hSt ⊢
    generalize w2.alloc (.cells #[.slice x2 ps.length k2, .slice none 0 0] 60) = W3 at hSt ⊢
    have u1 : W3.cell? ⟨fb, 1, none⟩ = some (.int .i64 (pn : Nat)) := (hSt.g.cell (p := ⟨fb, 1, none⟩) hfb).trans u1
    have u2 : W3.cell? ⟨fb, 2, none⟩ = some (.int .i64 (sn : Nat)) := (hSt.g.cell (p := ⟨fb, 2, none⟩) hfb).trans u2
    go_upto_region 6 with (fail)
    clear u0 u1 u2
    have g4 : Below W3.heap.size W3 (W3.alloc (.cells #[.int .i64 (pn : Nat), .int .i64 (sn : Nat)] 62)) := (Below.refl _ W3).alloc (Nat.le_refl _) _
    have hB4 : B2 (W3.alloc (.cells #[.int .i64 (pn : Nat), .int .i64 (sn : Nat)] 62)) W3.heap.size (.int .i64 (pn : Nat)) (.int .i64 (sn : Nat)) := B2.new _ _ _ _
    have HDa : Hid (∀ g, blkP (.slice none 0 0) [] g ∨ blkP (.slice x2 ps.length k2) V2 g ∨ g = ob → g < W3.heap.size) := fun g hg => by
      rcases hg with (h | ⟨u, hu, _⟩) | h | h
      · cases h
      · simp at hu
      · exact (hSt.a.p.lt h).2
      · rw [h]; exact hSt.o.lt
    have hS4 := hSt.below g4
    clear g4 hSt
    generalize W3.heap.size = ab at hB4 HDa ⊢
    generalize W3.alloc (.cells #[.int .i64 (pn : Nat), .int .i64 (sn : Nat)] 62) = W4 at hB4 hS4 ⊢
    have hho := homeOf_any U.heap.size U ob [] ps none 0 [] x2 k2 V2 pn sn zs W4 hS4 HC.out
    rw [HVh.out] at hho
    obtain ⟨b0, b1, b2, b3⟩ := hB4
    have HB4 : Hid (B2 W4 ab (.int .i64 (pn : Nat)) (.int .i64 (sn : Nat))) := ⟨b0, b1, b2, b3⟩
    go_upto_region 7 with (go_at_call 29; refine hho.mono ?_; rintro e w5 ⟨rfl, g5⟩; clear hho)
    clear b0 b1 b2 b3
    have hB5 := HB4.out.below g5 HB4.out.lt
    have hS5 := hS4.below g5
    have hab5 : ab < w5.heap.size := hB5.lt
    have g6 : Below w5.heap.size w5 (w5.alloc (.cells #[.int .i64 (pm : Nat), .int .i64 (sm : Nat)] 62)) := (Below.refl _ w5).alloc (Nat.le_refl _) _
    have hM6 : B2 (w5.alloc (.cells #[.int .i64 (pm : Nat), .int .i64 (sm : Nat)] 62)) w5.heap.size (.int .i64 (pm : Nat)) (.int .i64 (sm : Nat)) := B2.new _ _ _ _
    have hB6 := hB5.below g6 hab5
    have hS6 := hS5.below g6
    clear g6 hB5 hS5 g5 hS4 HB4
    generalize w5.heap.size = mb at hM6 hab5 ⊢
    generalize w5.alloc (.cells #[.int .i64 (pm : Nat), .int .i64 (sm : Nat)] 62) = W6 at hM6 hB6 hS6 ⊢
    obtain ⟨D, hD⟩ : ∃ D : Nat → Prop, D = fun g => blkP (.slice none 0 0) [] g ∨ blkP (.slice x2 ps.length k2) V2 g ∨ g = ob := ⟨_, rfl⟩
    have HDl : Hid (∀ g, D g → g < ab) := fun g hg => HDa.out g (by rw [hD] at hg; exact hg)
    have hab6 : ab < W6.heap.size := hB6.lt
    have hdc := dropCell_any U.heap.size U ob [] ps none 0 [] x2 k2 V2 pn sn zs W6 hS6 HC.out hnl (by simp) D (fun g hg => by rw [hD]; exact .inl hg) (fun g hg => by rw [hD]; exact .inr (.inl hg)) (by rw [hD]; exact .inr (.inr rfl)) (fun g hg => Nat.lt_trans (HDl.out g hg) hab6)
    have hna : ¬ D ab := fun h => Nat.lt_irrefl _ (HDl.out _ h)
    have hnm : ¬ D mb := fun h => by have := HDl.out _ h; omega
    clear hS6 hD HDa
    obtain ⟨b0, b1, b2, b3⟩ := hB6
    have HB6 : Hid (B2 W6 ab (.int .i64 (pn : Nat)) (.int .i64 (sn : Nat))) := ⟨b0, b1, b2, b3⟩
    have HM6 : Hid (B2 W6 mb (.int .i64 (pm : Nat)) (.int .i64 (sm : Nat))) := hM6
    clear hM6
    go_upto_region 8 with (go_at_call 30; refine hdc.mono ?_; rintro e w7 ⟨rfl, hR, hT⟩; clear hdc)
    obtain ⟨x1, k1, V1, V2', hS7⟩ := hR
    clear b0 b1 b2 b3
    have hB7 := HB6.out.turnS hT hna
    have hM7 := HM6.out.turnS hT hnm
    clear hT HB6 HM6 hna hnm HDl
    obtain ⟨b0, b1, _, _⟩ := hB7
    obtain ⟨m0, m1, _, _⟩ := hM7
    rcases HCase.out with ⟨hpm, hsm, hdr⟩ | ⟨hne, ys, hcy, hdr⟩
    · subst hpm hsm
      have HEd : Hid _ := hdr
      have hnq : (!(((pm : Nat) : Int) == ((pm : Nat) : Int) && ((sm : Nat) : Int) == ((sm : Nat) : Int))) = false := by simp
      rw [hnq] at hneq
      generalize ps.set pm (drpP zs sm) = cur at hS7 HEd
      generalize [] ++ [((pm : Int), drpP zs sm)] = es at hS7 HEd
      have HEq : Hid (delR ps z = (es, cur)) := HEd.out
      have hc1 := answer_any ob x1 x2 es.length k1 cur.length k2 w7 hS7.o
      have HS : Hid _ := hS7
      clear hS7 hdr hnq HCase
      go_wp2_with (go_at_call 31; refine hc1.mono ?_)
      rintro e w9 ⟨rfl, g9⟩
      have hS := HS.out.below g9
      have hg := HG.out _ hS.g
      have hgs := hg.size
      have HA : Hid _ := hS.out (rb := w.heap.size) hwU (Nat.le_of_lt hwU)
      obtain ⟨c0, c1, c2, f0, f1, f2⟩ := HO.out _ hS.g
      clear hS HS hc1 g9 b0 b1 m0 m1
      go_wp2_with fail
      refine bodyPost_ret (v := .agg #[.int .i64 0, .slice x1 es.length k1, .slice x2 cur.length k2]) (by simp [results, Try.results8, go_sem, *]) rfl ?_
      refine AePost.mk0 HEe.out.1 ?_ ?_ ?_ HA.out
      · rw [HEe.out.2.1, HEq.out]
      · rw [HEe.out.2.2, HEq.out]
      · go_grown
    · have hnq : (!(((pm : Nat) : Int) == ((pn : Nat) : Int) && ((sm : Nat) : Int) == ((sn : Nat) : Int))) = true := by
        simp
        omega
      rw [hnq] at hneq
      have hl2 : (ps.set pn (drpP zs sn)).length ≤ 12 := by rw [List.length_set]; exact hnl
      have HEd : Hid _ := hdr
      generalize ps.set pn (drpP zs sn) = cur at hS7 HEd hcy hl2
      generalize hes : [] ++ [((pn : Int), drpP zs sn)] = es at hS7 HEd
      have hel : es.length ≤ 1000 := by rw [← hes]; simp
      have hD3 : ∀ g, blkP (.slice x1 es.length k1) V1 g ∨ blkP (.slice x2 cur.length k2) V2' g ∨ g = ob → g < w7.heap.size := fun g hg => by
        rcases hg with h | h | h
        · exact (hS7.a.e.lt h).2
        · exact (hS7.a.p.lt h).2
        · rw [h]; exact hS7.o.lt
      have hdc := dropCell_any U.heap.size U ob es cur x1 k1 V1 x2 k2 V2' pm sm ys w7 hS7 hcy hl2 hel (fun g => blkP (.slice x1 es.length k1) V1 g ∨ blkP (.slice x2 cur.length k2) V2' g ∨ g = ob) (fun g hg => .inl hg) (fun g hg => .inr (.inl hg)) (.inr (.inr rfl)) hD3
      generalize cur.set pm (drpP ys sm) = cur2 at hdc HEd
      generalize es ++ [((pm : Int), drpP ys sm)] = es2 at hdc HEd
      have HEq : Hid (delR ps z = (es2, cur2)) := HEd.out
      clear hS7 hdr hnq HCase hD3 hes hcy hne
      go_upto_region 10 with (go_at_call 30; refine hdc.mono ?_; rintro e w8 ⟨rfl, hR, _⟩; clear hdc)
      obtain ⟨x3, k3, V3, V3', hS8⟩ := hR
      have hc1 := answer_any ob x3 x2 es2.length k3 cur2.length k2 w8 hS8.o
      have HS : Hid _ := hS8
      clear hS8 b0 b1 m0 m1
      go_wp2_with (go_at_call 31; refine hc1.mono ?_)
      rintro e w9 ⟨rfl, g9⟩
      have hS := HS.out.below g9
      have hg := HG.out _ hS.g
      have hgs := hg.size
      have HA : Hid _ := hS.out (rb := w.heap.size) hwU (Nat.le_of_lt hwU)
      obtain ⟨c0, c1, c2, f0, f1, f2⟩ := HO.out _ hS.g
      clear hS HS hc1 g9
      go_wp2_with fail
      refine bodyPost_ret (v := .agg #[.int .i64 0, .slice x3 es2.length k3, .slice x2 cur2.length k2]) (by simp [results, Try.results8, go_sem, *]) rfl ?_
      refine AePost.mk0 HEe.out.1 ?_ ?_ ?_ HA.out
      · rw [HEe.out.2.1, HEq.out]
      · rw [HEe.out.2.2, HEq.out]
      · go_grown
  · rw [hfe] at hfr
    simp only [rp, plV] at hfr
    obtain ⟨e1, e2⟩ := deZ_none hz
    have HEe : Hid (deQ ps t k = q ∧ deE ps t k = [] ∧ deP ps t k = []) := ⟨hqq, e1, e2⟩
    have dq : (q != 0) = true := by simpa using hqn
    have hwn : ∀ W : World, Below Y.heap.size Y W → ¬ (W.heap.size = w.heap.size) := fun W hW e => by have := hW.size; omega
    clear hz hqn hqq e1 e2 hfe
    go_enter Try.func8, Try.ntmps8
    go_upto_region 2 with (go_at_call 27; refine hfr.mono ?_; rintro e w1 ⟨rfl, g1⟩; clear hfr)
    generalize hU : World.alloc w1 _ = U
    have gU : Below w1.heap.size w1 U := by
      rw [← hU]
      go_grown
    have u0 : U.cell? ⟨w1.heap.size, 0, none⟩ = some (.int .i64 q) := by rw [← hU]; simp [go_sem]
    clear hU
    have gA : Below Y.heap.size Y U := g1.trans (gU.mono g1.size)
    generalize w1.heap.size = fb at u0 ⊢
    have g5 := gY.trans (gA.mono gY.size)
    have hgs := g5.size
    obtain ⟨c0, c1, c2, f0, f1, f2⟩ := hO.below gA hwY
    clear hO gU g1 gA gY hr hrd hwn
    go_wp2_with fail
    refine bodyPost_ret (v := .agg #[.int .i64 q, .slice none 0 0, .slice none 0 0]) (by simp [results, Try.results8, go_sem, *]) rfl ?_
    rw [HEe.out.1]
    exact AePost.nil HEe.out.2.1 HEe.out.2.2 (by go_grown)

end Go.Proofs.Ytlggefcaiojemaa
