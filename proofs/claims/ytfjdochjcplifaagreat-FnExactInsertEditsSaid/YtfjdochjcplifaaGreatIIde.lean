/-
  The program's DeleteEdits.
-/
import Derived.Test.YtfjdochjcplifaaGreatIHom
import Derived.Test.YtfjdochjcplifaaGreatIMde
import Derived.Laws.StructEq
import Derived.Test.YtfjdochjcplifaaGreatIEdb
import Derived.Test.YtfjdochjcplifaaGreatIMae

namespace Go.Proofs.YtfjdochjcplifaaGreat
open Go.RowKit
set_option linter.unusedVariables false

theorem neq_place (a b c d : Int) (W : World) : (binOp .neq 84 (.agg #[.int .i64 a, .int .i64 b]) (.agg #[.int .i64 c, .int .i64 d])).run Tryz.prog W = .ok (.bool (!(a == c && b == d))) W := by
  by_cases h1 : a = c <;> by_cases h2 : b = d <;> simp [go_sem, h1, h2]

/-- Where the cell of what is found stands: there, or where the stub tells. -/
theorem FndAt.home {ps : List (List Int)} {z : Spt} {pn sn : Nat} {zs : List Int} (h : FndAt ps z pn sn zs) : ∃ pm sm : Nat, homV (unp (cellOf zs sn)) pn sn = .agg #[.int .i64 pm, .int .i64 sm] ∧
    ((pm = pn ∧ sm = sn ∧ delR ps z = ([] ++ [((pn : Int), drpP zs sn)], ps.set pn (drpP zs sn))) ∨
     (¬ (pm = pn ∧ sm = sn) ∧ ∃ ys, CelIn (ps.set pn (drpP zs sn)) pm sm ys ∧ delR ps z = (([] ++ [((pn : Int), drpP zs sn)]) ++ [((pm : Int), drpP ys sm)], (ps.set pn (drpP zs sn)).set pm (drpP ys sm)))) := by
  rcases h.f2 with hf | hf
  · refine ⟨pn, sn, ?_, .inl ⟨rfl, rfl, h.row hf⟩⟩
    unfold homV
    rw [h.f, if_neg (by omega)]
  · obtain ⟨pm, sm, ys, e1, e2, hn, hc, hd⟩ := h.two hf
    refine ⟨pm, sm, ?_, .inr ⟨hn, ys, hc, hd⟩⟩
    unfold homV
    rw [h.f, if_pos hf, (h.tp hf).1, (h.tp hf).2, e1, e2]

set_option maxRecDepth 20000 in
set_option maxHeartbeats 4000000 in
theorem implDeleteEdits_any (a : Option Addr) (ps : List (List Int)) (n c : Nat) (t k : Int) (w : World) (hn : ps.length = n) (hm : n ≤ 1048576) (hp : PgOk ps) (hr : PgRdN w a ps) (hrd : PgRead w a ps) :
    Calls Tryz.prog 24 #[.slice a n c, .int .i64 t, .int .i64 k] w fun e w' => AePost (deQ ps t k) (deE ps t k) (deP ps t k) w e w' := by
  have hO := Rs3.new w
  have gY : Below w.heap.size w (w.alloc (.cells #[.int .i64 0, .slice none 0 0, .slice none 0 0] 31)) := by go_grown
  obtain ⟨Y, hY⟩ : ∃ Y, w.alloc (.cells #[.int .i64 0, .slice none 0 0, .slice none 0 0] 31) = Y := ⟨_, rfl⟩
  rw [hY] at hO gY
  have hwY : w.heap.size < Y.heap.size := World.block_lt_of_cell? Y _ hO.c0
  have hfr := implFindRow_any a ps n c t k Y hn (by omega) hp (hrd.below gY (Nat.le_refl _))
  rcases find_deZ hp t k with ⟨z, hz, hfe, hq0⟩ | ⟨hz, q, hfe, hqn, hqq⟩
  · rw [hfe] at hfr
    simp only [toPl, plV] at hfr
    obtain ⟨hvw, _, _, pn, sn, zs, hZ⟩ := deZ_at hp hz
    obtain ⟨e1, e2⟩ := deZ_some hz
    have h12 := (view_zero hvw).1
    have HEe : Hid (deQ ps t k = 0 ∧ deE ps t k = (delR ps z).1 ∧ deP ps t k = (delR ps z).2) := ⟨hq0, e1, e2⟩
    rw [hZ.p, hZ.s] at hfr
    obtain ⟨pm, sm, HV, hcase⟩ := hZ.home
    have hC := hZ.c
    have hnl : ps.length ≤ 12 := h12
    generalize z.c.t = zt, z.c.k = zk, z.c.v = zv, z.c.s = zst at hfr
    have HC : Hid (CelIn ps pn sn zs) := hC
    have HVh : Hid (homV (unp (cellOf zs sn)) pn sn = .agg #[.int .i64 pm, .int .i64 sm]) := HV
    have hneq : ∀ W, (binOp .neq 84 (.agg #[.int .i64 (pm : Int), .int .i64 (sm : Int)]) (.agg #[.int .i64 (pn : Int), .int .i64 (sn : Int)])).run Tryz.prog W = .ok (.bool (!(((pm : Nat) : Int) == ((pn : Nat) : Int) && ((sm : Nat) : Int) == ((sn : Nat) : Int)))) W := fun W => neq_place _ _ _ _ W
    have HCase : Hid _ := hcase
    clear hz hq0 e1 e2 hvw hfe hZ hC HV hcase
    go_enter Tryz.func24, Tryz.ntmps24
    go_upto_region 2 with (go_at_call 15; refine hfr.mono ?_; rintro e w1 ⟨rfl, g1⟩; clear hfr)
    generalize hU : World.alloc w1 _ = U
    have gU : Below w1.heap.size w1 U := by
      rw [← hU]
      go_grown
    have u0 : U.cell? ⟨w1.heap.size, 0, none⟩ = some (.int .i64 0) := by rw [← hU]; simp [go_sem]
    have u1 : U.cell? ⟨w1.heap.size, 1, none⟩ = some (.int .i64 (pn : Nat)) := by rw [← hU]; simp [go_sem]
    have u2 : U.cell? ⟨w1.heap.size, 2, none⟩ = some (.int .i64 (sn : Nat)) := by rw [← hU]; simp [go_sem]
    clear hU
    have gA : Below Y.heap.size Y U := g1.trans (gU.mono g1.size)
    have hfb : w1.heap.size < U.heap.size := World.block_lt_of_cell? U _ u0
    generalize w1.heap.size = fb at u0 u1 u2 hfb ⊢
    have how := ownPages_any a ps n c U hn hm hp ((hr.below gY (Nat.le_refl _)).below gA (Nat.le_refl _))
    have hwU : w.heap.size < U.heap.size := Nat.lt_of_lt_of_le hwY gA.size
    have HO : Hid (∀ V, Below U.heap.size U V → Rs3 V w.heap.size) := fun V hV => (hO.below gA hwY).below hV hwU
    have HG : Hid (∀ V, Below U.heap.size U V → Below w.heap.size w V) := fun V hV => gY.trans ((gA.trans (hV.mono gA.size)).mono gY.size)
    have HL : Hid (ps.length = n) := hn
    clear gU g1 gA hr hrd hO gY hY hn
    go_upto_region 5 with (go_at_call 52; refine how.mono ?_; rintro e w2 ⟨v2, V2, rfl, g2, hP, hS2⟩; obtain ⟨x2, k2, hv2, _⟩ := hP.own hS2; subst hv2; clear how)
    have hs2 := g2.size
    have gY2 : Below w2.heap.size w2 (w2.alloc (.cells #[.slice x2 ps.length k2, .slice none 0 0] 82)) := (Below.refl _ w2).alloc (Nat.le_refl _) _
    have hSt : HpS U.heap.size U w2.heap.size [] ps none 0 [] x2 k2 V2 (w2.alloc (.cells #[.slice x2 ps.length k2, .slice none 0 0] 82)) := ⟨⟨EdB.nil _ _, hP.below gY2, fun i j u u' g _ h => by simp at h, hS2, fun g h => by rcases h with h | ⟨u, hu, _⟩; cases h; simp at hu⟩, ⟨by simp [go_sem], by simp [go_sem], by simp [go_sem], by simp [go_sem]⟩, fun h => by rcases h with h | ⟨u, hu, _⟩; cases h; simp at hu, fun h => Nat.lt_irrefl _ (hP.lt h).2, g2.trans (gY2.mono hs2), hs2⟩
    clear hP hS2 g2 gY2 hs2
    generalize w2.heap.size = ob at hSt ⊢
    generalize w2.alloc (.cells #[.slice x2 ps.length k2, .slice none 0 0] 82) = W3 at hSt ⊢
    have u1 : W3.cell? ⟨fb, 1, none⟩ = some (.int .i64 (pn : Nat)) := (hSt.g.cell (p := ⟨fb, 1, none⟩) hfb).trans u1
    have u2 : W3.cell? ⟨fb, 2, none⟩ = some (.int .i64 (sn : Nat)) := (hSt.g.cell (p := ⟨fb, 2, none⟩) hfb).trans u2
    go_upto_region 6 with (fail)
    clear u0 u1 u2
    have g4 : Below W3.heap.size W3 (W3.alloc (.cells #[.int .i64 (pn : Nat), .int .i64 (sn : Nat)] 84)) := (Below.refl _ W3).alloc (Nat.le_refl _) _
    have hB4 : B2 (W3.alloc (.cells #[.int .i64 (pn : Nat), .int .i64 (sn : Nat)] 84)) W3.heap.size (.int .i64 (pn : Nat)) (.int .i64 (sn : Nat)) := B2.new _ _ _ _
    have HDa : Hid (∀ g, blkP (.slice none 0 0) [] g ∨ blkP (.slice x2 ps.length k2) V2 g ∨ g = ob → g < W3.heap.size) := fun g hg => by
      rcases hg with (h | ⟨u, hu, _⟩) | h | h
      · cases h
      · simp at hu
      · exact (hSt.a.p.lt h).2
      · rw [h]; exact hSt.o.lt
    have hS4 := hSt.below g4
    clear g4 hSt
    generalize W3.heap.size = ab at hB4 HDa ⊢
    generalize W3.alloc (.cells #[.int .i64 (pn : Nat), .int .i64 (sn : Nat)] 84) = W4 at hB4 hS4 ⊢
    have hho := homeOf_any U.heap.size U ob [] ps none 0 [] x2 k2 V2 pn sn zs W4 hS4 HC.out
    rw [HVh.out] at hho
    obtain ⟨b0, b1, b2, b3⟩ := hB4
    have HB4 : Hid (B2 W4 ab (.int .i64 (pn : Nat)) (.int .i64 (sn : Nat))) := ⟨b0, b1, b2, b3⟩
    go_upto_region 7 with (go_at_call 70; refine hho.mono ?_; rintro e w5 ⟨rfl, g5⟩; clear hho)
    clear b0 b1 b2 b3
    have hB5 := HB4.out.below g5 HB4.out.lt
    have hS5 := hS4.below g5
    have hab5 : ab < w5.heap.size := hB5.lt
    have g6 : Below w5.heap.size w5 (w5.alloc (.cells #[.int .i64 (pm : Nat), .int .i64 (sm : Nat)] 84)) := (Below.refl _ w5).alloc (Nat.le_refl _) _
    have hM6 : B2 (w5.alloc (.cells #[.int .i64 (pm : Nat), .int .i64 (sm : Nat)] 84)) w5.heap.size (.int .i64 (pm : Nat)) (.int .i64 (sm : Nat)) := B2.new _ _ _ _
    have hB6 := hB5.below g6 hab5
    have hS6 := hS5.below g6
    clear g6 hB5 hS5 g5 hS4 HB4
    generalize w5.heap.size = mb at hM6 hab5 ⊢
    generalize w5.alloc (.cells #[.int .i64 (pm : Nat), .int .i64 (sm : Nat)] 84) = W6 at hM6 hB6 hS6 ⊢
    obtain ⟨D, hD⟩ : ∃ D : Nat → Prop, D = fun g => blkP (.slice none 0 0) [] g ∨ blkP (.slice x2 ps.length k2) V2 g ∨ g = ob := ⟨_, rfl⟩
    have HDl : Hid (∀ g, D g → g < ab) := fun g hg => HDa.out g (by rw [hD] at hg; exact hg)
    have hab6 : ab < W6.heap.size := hB6.lt
    have hdc := dropCell_any U.heap.size U ob [] ps none 0 [] x2 k2 V2 pn sn zs W6 hS6 HC.out hnl (by simp) D (fun g hg => by rw [hD]; exact .inl hg) (fun g hg => by rw [hD]; exact .inr (.inl hg)) (by rw [hD]; exact .inr (.inr rfl)) (fun g hg => Nat.lt_trans (HDl.out g hg) hab6)
    have hna : ¬ D ab := fun h => Nat.lt_irrefl _ (HDl.out _ h)
    have hnm : ¬ D mb := fun h => by have := HDl.out _ h; omega
    clear hS6 hD HDa
    obtain ⟨b0, b1, b2, b3⟩ := hB6
    have HB6 : Hid (B2 W6 ab (.int .i64 (pn : Nat)) (.int .i64 (sn : Nat))) := ⟨b0, b1, b2, b3⟩
    have HM6 : Hid (B2 W6 mb (.int .i64 (pm : Nat)) (.int .i64 (sm : Nat))) := hM6
    clear hM6
    go_upto_region 8 with (go_at_call 71; refine hdc.mono ?_; rintro e w7 ⟨rfl, hR, hT⟩; clear hdc)
    obtain ⟨x1, k1, V1, V2', hS7⟩ := hR
    clear b0 b1 b2 b3
    have hB7 := HB6.out.turnS hT hna
    have hM7 := HM6.out.turnS hT hnm
    clear hT HB6 HM6 hna hnm HDl
    obtain ⟨b0, b1, _, _⟩ := hB7
    obtain ⟨m0, m1, _, _⟩ := hM7
    rcases HCase.out with ⟨hpm, hsm, hdr⟩ | ⟨hne, ys, hcy, hdr⟩
    · subst hpm hsm
      have HEd : Hid _ := hdr
      have hnq : (!(((pm : Nat) : Int) == ((pm : Nat) : Int) && ((sm : Nat) : Int) == ((sm : Nat) : Int))) = false := by simp
      rw [hnq] at hneq
      generalize ps.set pm (drpP zs sm) = cur at hS7 HEd
      generalize [] ++ [((pm : Int), drpP zs sm)] = es at hS7 HEd
      have HEq : Hid (delR ps z = (es, cur)) := HEd.out
      have hc1 := answer_any ob x1 x2 es.length k1 cur.length k2 w7 hS7.o
      have HS : Hid _ := hS7
      clear hS7 hdr hnq HCase
      go_wp2_with (go_at_call 55; refine hc1.mono ?_)
      rintro e w9 ⟨rfl, g9⟩
      have hS := HS.out.below g9
      have hg := HG.out _ hS.g
      have hgs := hg.size
      have HA : Hid _ := hS.out (rb := w.heap.size) hwU (Nat.le_of_lt hwU)
      obtain ⟨c0, c1, c2, f0, f1, f2⟩ := HO.out _ hS.g
      clear hS HS hc1 g9 b0 b1 m0 m1
      go_wp2_with fail
      refine bodyPost_ret (v := .agg #[.int .i64 0, .slice x1 es.length k1, .slice x2 cur.length k2]) (by simp [results, Tryz.results24, go_sem, *]) rfl ?_
      refine AePost.mk0 HEe.out.1 ?_ ?_ ?_ HA.out
      · rw [HEe.out.2.1, HEq.out]
      · rw [HEe.out.2.2, HEq.out]
      · go_grown
    · have hnq : (!(((pm : Nat) : Int) == ((pn : Nat) : Int) && ((sm : Nat) : Int) == ((sn : Nat) : Int))) = true := by
        simp
        omega
      rw [hnq] at hneq
      have hl2 : (ps.set pn (drpP zs sn)).length ≤ 12 := by rw [List.length_set]; exact hnl
      have HEd : Hid _ := hdr
      generalize ps.set pn (drpP zs sn) = cur at hS7 HEd hcy hl2
      generalize hes : [] ++ [((pn : Int), drpP zs sn)] = es at hS7 HEd
      have hel : es.length ≤ 1000 := by rw [← hes]; simp
      have hD3 : ∀ g, blkP (.slice x1 es.length k1) V1 g ∨ blkP (.slice x2 cur.length k2) V2' g ∨ g = ob → g < w7.heap.size := fun g hg => by
        rcases hg with h | h | h
        · exact (hS7.a.e.lt h).2
        · exact (hS7.a.p.lt h).2
        · rw [h]; exact hS7.o.lt
      have hdc := dropCell_any U.heap.size U ob es cur x1 k1 V1 x2 k2 V2' pm sm ys w7 hS7 hcy hl2 hel (fun g => blkP (.slice x1 es.length k1) V1 g ∨ blkP (.slice x2 cur.length k2) V2' g ∨ g = ob) (fun g hg => .inl hg) (fun g hg => .inr (.inl hg)) (.inr (.inr rfl)) hD3
      generalize cur.set pm (drpP ys sm) = cur2 at hdc HEd
      generalize es ++ [((pm : Int), drpP ys sm)] = es2 at hdc HEd
      have HEq : Hid (delR ps z = (es2, cur2)) := HEd.out
      clear hS7 hdr hnq HCase hD3 hes hcy hne
      go_upto_region 10 with (go_at_call 71; refine hdc.mono ?_; rintro e w8 ⟨rfl, hR, _⟩; clear hdc)
      obtain ⟨x3, k3, V3, V3', hS8⟩ := hR
      have hc1 := answer_any ob x3 x2 es2.length k3 cur2.length k2 w8 hS8.o
      have HS : Hid _ := hS8
      clear hS8 b0 b1 m0 m1
      go_wp2_with (go_at_call 55; refine hc1.mono ?_)
      rintro e w9 ⟨rfl, g9⟩
      have hS := HS.out.below g9
      have hg := HG.out _ hS.g
      have hgs := hg.size
      have HA : Hid _ := hS.out (rb := w.heap.size) hwU (Nat.le_of_lt hwU)
      obtain ⟨c0, c1, c2, f0, f1, f2⟩ := HO.out _ hS.g
      clear hS HS hc1 g9
      go_wp2_with fail
      refine bodyPost_ret (v := .agg #[.int .i64 0, .slice x3 es2.length k3, .slice x2 cur2.length k2]) (by simp [results, Tryz.results24, go_sem, *]) rfl ?_
      refine AePost.mk0 HEe.out.1 ?_ ?_ ?_ HA.out
      · rw [HEe.out.2.1, HEq.out]
      · rw [HEe.out.2.2, HEq.out]
      · go_grown
  · rw [hfe] at hfr
    simp only [rp, plV] at hfr
    obtain ⟨e1, e2⟩ := deZ_none hz
    have HEe : Hid (deQ ps t k = q ∧ deE ps t k = [] ∧ deP ps t k = []) := ⟨hqq, e1, e2⟩
    have dq : (q != 0) = true := by simpa using hqn
    have hwn : ∀ W : World, Below Y.heap.size Y W → ¬ (W.heap.size = w.heap.size) := fun W hW e => by have := hW.size; omega
    clear hz hqn hqq e1 e2 hfe
    go_enter Tryz.func24, Tryz.ntmps24
    go_upto_region 2 with (go_at_call 15; refine hfr.mono ?_; rintro e w1 ⟨rfl, g1⟩; clear hfr)
    generalize hU : World.alloc w1 _ = U
    have gU : Below w1.heap.size w1 U := by
      rw [← hU]
      go_grown
    have u0 : U.cell? ⟨w1.heap.size, 0, none⟩ = some (.int .i64 q) := by rw [← hU]; simp [go_sem]
    clear hU
    have gA : Below Y.heap.size Y U := g1.trans (gU.mono g1.size)
    generalize w1.heap.size = fb at u0 ⊢
    have g5 := gY.trans (gA.mono gY.size)
    have hgs := g5.size
    obtain ⟨c0, c1, c2, f0, f1, f2⟩ := hO.below gA hwY
    clear hO gU g1 gA gY hr hrd hwn
    go_wp2_with fail
    refine bodyPost_ret (v := .agg #[.int .i64 q, .slice none 0 0, .slice none 0 0]) (by simp [results, Tryz.results24, go_sem, *]) rfl ?_
    rw [HEe.out.1]
    exact AePost.nil HEe.out.2.1 HEe.out.2.2 (by go_grown)

end Go.Proofs.YtfjdochjcplifaaGreat

/-
  The model's DeleteEdits.
-/
namespace Go.Proofs.YtfjdochjcplifaaGreat
open Go.RowKit
set_option linter.unusedVariables false

set_option maxRecDepth 20000 in
set_option maxHeartbeats 4000000 in
theorem specDeleteEdits_any (a : Option Addr) (ps : List (List Int)) (n c : Nat) (t k : Int) (w : World) (hn : ps.length = n) (hm : n ≤ 1048576) (hp : PgOk ps) (hr : PgRdN w a ps) (hrd : PgRead w a ps) :
    Calls Tryz.prog 25 #[.slice a n c, .int .i64 t, .int .i64 k] w fun e w' => AePost (deQ ps t k) (deE ps t k) (deP ps t k) w e w' := by
  have hO := Rs3.new w
  have gY : Below w.heap.size w (w.alloc (.cells #[.int .i64 0, .slice none 0 0, .slice none 0 0] 31)) := by go_grown
  obtain ⟨Y, hY⟩ : ∃ Y, w.alloc (.cells #[.int .i64 0, .slice none 0 0, .slice none 0 0] 31) = Y := ⟨_, rfl⟩
  rw [hY] at hO gY
  have hwY : w.heap.size < Y.heap.size := World.block_lt_of_cell? Y _ hO.c0
  have hlf := l6Fault_any a ps n c Y hn (by omega) hp (hrd.below gY (Nat.le_refl _))
  have HBad : Hid (∀ q V, Below Y.heap.size Y V → Calls Tryz.prog 57 #[.int .i64 q] V fun e w' => e = .returned (.agg #[.int .i64 q, .slice none 0 0, .slice none 0 0]) ∧ Below w.heap.size w w' ∧ Rs3 w' w.heap.size) := fun q V hV => by
    refine (l7Bad_any q V).mono ?_
    rintro e w' ⟨rfl, hb⟩
    have h2 := hV.trans (hb.mono hV.size)
    exact ⟨rfl, gY.trans (h2.mono gY.size), hO.below h2 hwY⟩
  go_enter Tryz.func25, Tryz.ntmps25
  go_upto_region 2 with (go_at_call 56; refine hlf.mono ?_; rintro e w1 ⟨rfl, g1⟩; clear hlf)
  have hfz : Hid _ := find_deZ hp t k
  by_cases hv : viewQ ps = 0
  · rw [hv]
    have HVw : Hid (viewQ ps = 0) := hv
    have HHn : Hid (ps.length = n) := hn
    by_cases hi : (inR t 0 3 && inR k 1 99) = true
    · obtain ⟨v1, v2⟩ := Bool.and_eq_true_iff.1 hi
      obtain ⟨q1, q2, q3, q4⟩ := view_zero hv
      have hfd := l6Find_any a ps n c t k w1 hn (by omega) hp ((hrd.below gY (Nat.le_refl _)).below g1 (Nat.le_refl _)) q3 q4
      have HF : Hid (deZ ps t k = fndS (snF (mvF (spotsOf 0 ps)) (spotsOf 0 ps)) t k) := by show _ = _; unfold deZ; rw [if_pos hv, if_pos hi]
      rw [← HF.out] at hfd
      have HI : Hid ((inR t 0 3 && inR k 1 99) = true) := hi
      clear hi q3 q4 q2 HF hv hn
      go_upto_region 6 with (go_at_call 72; refine (l1In_any _ _ _ _).mono ?_; rintro e w2 ⟨rfl, hw2⟩; subst w2; (try rw [v1]); (try rw [v2]))
      rcases hfz.out with ⟨z, hz, _, hq0⟩ | ⟨hz, qq, _, hqn, hqq⟩
      · rw [hz] at hfd
        simp only [Option.getD_some, Option.isSome_some] at hfd
        obtain ⟨_, _, _, pn, sn, zs, hZ⟩ := deZ_at hp hz
        obtain ⟨e1, e2⟩ := deZ_some hz
        have HEe : Hid (deQ ps t k = 0 ∧ deE ps t k = (delR ps z).1 ∧ deP ps t k = (delR ps z).2) := ⟨hq0, e1, e2⟩
        clear hz hq0 e1 e2
        have hzp := hZ.p
        have hzs := hZ.s
        obtain ⟨zp, zs', zc⟩ := z
        obtain ⟨zq, zf, zcp, zcl, zt, zk, zv, zst⟩ := zc
        simp only at hzp hzs
        subst hzp hzs
        simp only [spE] at hfd
        have HZ : Hid _ := hZ
        clear hZ
        go_upto_region 7 with (go_at_call 59; refine hfd.mono ?_; rintro e w3 ⟨rfl, g3⟩; clear hfd)
        generalize hU : World.alloc w3 _ = U
        have gU : Below w3.heap.size w3 U := by
          rw [← hU]
          go_grown
        have hsp : SpH w3.heap.size pn sn zf zcp zcl U := by
          rw [← hU]
          exact ⟨by simp [go_sem], by simp [go_sem], by simp [go_sem], by simp [go_sem], by simp [go_sem]⟩
        clear hU
        have gA : Below Y.heap.size Y U := (g1.trans (g3.mono g1.size)).trans (gU.mono (Nat.le_trans g1.size g3.size))
        have hdl := l7Delete_any a ps n c w3.heap.size _ pn sn zs U HHn.out (by have := HHn.out; omega) hp ((hr.below gY (Nat.le_refl _)).below gA (Nat.le_refl _)) HZ.out hsp
        clear hsp HZ
        generalize delR ps _ = dd at hdl HEe
        obtain ⟨es', qs'⟩ := dd
        simp only at hdl HEe
        go_wp2_with (go_at_call 73; refine hdl.mono ?_)
        rintro e w5 ⟨v1, V1, v2, V2, rfl, g5, hA⟩
        have hwU := gA.size
        have gA5 : Below Y.heap.size Y w5 := gA.trans (g5.mono hwU)
        have g5' : Below w.heap.size w w5 := gY.trans (gA5.mono gY.size)
        have hgs := g5'.size
        obtain ⟨c0, c1, c2, f0, f1, f2⟩ := hO.below gA5 hwY
        have h1 : ∀ g, blkP v1 V1 g → some w.heap.size ≠ some g := fun g hg e => by have := (hA.e.lt hg).1; cases e; omega
        have h2 : ∀ g, blkP v2 V2 g → some w.heap.size ≠ some g := fun g hg e => by have := (hA.p.lt hg).1; cases e; omega
        obtain ⟨a1, k1, hv1, _⟩ := hA.e.own hA.s1
        obtain ⟨a2, k2, hv2, _⟩ := hA.p.own hA.s2
        have HA : Hid _ := (((hA.base (m := w.heap.size) (by omega)).kept (grownOut w5 w.heap.size 0 (.int .i64 0)) h1 h2).kept (grownOut _ w.heap.size 1 v1) h1 h2).kept (grownOut _ w.heap.size 2 v2) h1 h2
        subst hv1 hv2
        clear hA h1 h2 hdl gA gU g1 g3 hO
        go_wp2_with fail
        refine bodyPost_ret (v := .agg #[.int .i64 0, .slice a1 es'.length k1, .slice a2 qs'.length k2]) (by simp [results, Tryz.results25, go_sem, *]) rfl ?_
        refine AePost.mk0 HEe.out.1 HEe.out.2.1 HEe.out.2.2 ?_ HA.out
        go_grown
      · rw [hz] at hfd
        simp only [Option.getD_none, Option.isSome_none, zSp, zC, spE] at hfd
        obtain ⟨e1, e2⟩ := deZ_none hz
        have hq4 : deQ ps t k = 4 := by
          have hh := hz
          unfold deZ at hh
          have hi' : (inR t 0 3 && inR k 1 99) = true := by rw [Bool.and_eq_true_iff]; exact ⟨(Bool.and_eq_true_iff.1 HI.out).1, (Bool.and_eq_true_iff.1 HI.out).2⟩
          rw [if_pos HVw.out, if_pos hi'] at hh
          unfold deQ findR
          rw [if_pos HVw.out, if_pos hi', fnd_fndS hp, allL_spots (view_zero HVw.out).2.1, hh]
          rfl
        have HEe : Hid (deQ ps t k = 4 ∧ deE ps t k = [] ∧ deP ps t k = []) := ⟨hq4, e1, e2⟩
        clear hz hqn hqq e1 e2 hq4
        go_upto_region 7 with (go_at_call 59; refine hfd.mono ?_; rintro e w3 ⟨rfl, g3⟩; clear hfd)
        generalize hU : World.alloc w3 _ = U
        have gU : Below w3.heap.size w3 U := by
          rw [← hU]
          go_grown
        clear hU
        have gA : Below Y.heap.size Y U := (g1.trans (g3.mono g1.size)).trans (gU.mono (Nat.le_trans g1.size g3.size))
        have hbd := HBad.out 4 U gA
        clear gA gU g1 g3
        go_wp2_with (go_at_call 57; refine hbd.mono ?_)
        rintro e w5 ⟨rfl, g5, hO5⟩
        have hgs := g5.size
        obtain ⟨c0, c1, c2, f0, f1, f2⟩ := hO5
        clear hbd hO
        go_wp2_with fail
        refine bodyPost_ret (v := .agg #[.int .i64 4, .slice none 0 0, .slice none 0 0]) (by simp [results, Tryz.results25, go_sem, *]) rfl ?_
        rw [HEe.out.1]
        exact AePost.nil HEe.out.2.1 HEe.out.2.2 (by go_grown)
    · have hzn : deZ ps t k = none := by unfold deZ; rw [if_pos hv, if_neg hi]
      have hq3 : deQ ps t k = 3 := by unfold deQ findR; rw [if_pos hv, if_neg hi]; rfl
      obtain ⟨e1, e2⟩ := deZ_none hzn
      have HEe : Hid (deQ ps t k = 3 ∧ deE ps t k = [] ∧ deP ps t k = []) := ⟨hq3, e1, e2⟩
      have hbd := HBad.out 3 w1 g1
      clear hfz hzn hq3 e1 e2 hv hn
      cases v1 : inR t 0 3
      · clear hi
        go_wp2_with (first | (go_at_call 72; refine (l1In_any _ _ _ _).mono ?_; rintro e w2 ⟨rfl, hw2⟩; subst w2; (try rw [v1])) | (go_at_call 57; refine hbd.mono ?_; rintro e w5 ⟨rfl, g5, hO5⟩; obtain ⟨c0, c1, c2, f0, f1, f2⟩ := hO5; clear hbd hO))
        have hgs := g5.size
        refine bodyPost_ret (v := .agg #[.int .i64 3, .slice none 0 0, .slice none 0 0]) (by simp [results, Tryz.results25, go_sem, *]) rfl ?_
        rw [HEe.out.1]
        exact AePost.nil HEe.out.2.1 HEe.out.2.2 (by go_grown)
      · have v2 : inR k 1 99 = false := by rw [v1] at hi; simpa using hi
        clear hi
        go_wp2_with (first | (go_at_call 72; refine (l1In_any _ _ _ _).mono ?_; rintro e w2 ⟨rfl, hw2⟩; subst w2; (try rw [v1]); (try rw [v2])) | (go_at_call 57; refine hbd.mono ?_; rintro e w5 ⟨rfl, g5, hO5⟩; obtain ⟨c0, c1, c2, f0, f1, f2⟩ := hO5; clear hbd hO))
        have hgs := g5.size
        refine bodyPost_ret (v := .agg #[.int .i64 3, .slice none 0 0, .slice none 0 0]) (by simp [results, Tryz.results25, go_sem, *]) rfl ?_
        rw [HEe.out.1]
        exact AePost.nil HEe.out.2.1 HEe.out.2.2 (by go_grown)
  · have hzn : deZ ps t k = none := by unfold deZ; rw [if_neg hv]
    have hqv : deQ ps t k = viewQ ps := by unfold deQ findR; rw [if_neg hv]; rfl
    obtain ⟨e1, e2⟩ := deZ_none hzn
    have dv : (viewQ ps != 0) = true := by simpa using hv
    have HEe : Hid (deQ ps t k = viewQ ps ∧ deE ps t k = [] ∧ deP ps t k = []) := ⟨hqv, e1, e2⟩
    generalize viewQ ps = qv at dv HEe ⊢
    have hbd := HBad.out qv w1 g1
    clear hfz hzn hqv e1 e2 hv
    go_wp2_with (go_at_call 57; refine hbd.mono ?_; rintro e w5 ⟨rfl, g5, hO5⟩; obtain ⟨c0, c1, c2, f0, f1, f2⟩ := hO5; clear hbd hO)
    have hgs := g5.size
    refine bodyPost_ret (v := .agg #[.int .i64 qv, .slice none 0 0, .slice none 0 0]) (by simp [results, Tryz.results25, go_sem, *]) rfl ?_
    rw [HEe.out.1]
    exact AePost.nil HEe.out.2.1 HEe.out.2.2 (by go_grown)

end Go.Proofs.YtfjdochjcplifaaGreat

/-
  The answers of edits: what they own, compared, marked and looked through.
-/
namespace Go.Proofs.YtfjdochjcplifaaGreat
open Go.RowKit
set_option linter.unusedVariables false

/-- Edits and pages in blocks of their own, from lo up to hi. -/
def EdH (lo hi : Nat) (w : World) (a : Option Addr) (es : List (Int × List Int)) (b : Option Addr) (ps : List (List Int)) : Prop :=
  ∃ S1 S2 : Nat → Prop, HasE S1 w a es ∧ HasQ S2 w b ps ∧ (∀ k, S1 k → lo ≤ k ∧ k < hi) ∧ (∀ k, S2 k → lo ≤ k ∧ k < hi) ∧ ∀ k, S1 k → ¬ S2 k
/-- The same, marked. -/
def EdM (lo hi : Nat) (w : World) (a : Option Addr) (es : List (Int × List Int)) (b : Option Addr) (ps : List (List Int)) : Prop :=
  ∃ S1 S2 : Nat → Prop, MarkE S1 w a es 1 ∧ MarkQ S2 w b ps (endE es 1) ∧ (∀ k, S1 k → lo ≤ k ∧ k < hi) ∧ (∀ k, S2 k → lo ≤ k ∧ k < hi)
section
variable {lo hi : Nat} {w w' : World} {a b : Option Addr} {es : List (Int × List Int)} {ps : List (List Int)}
theorem EdH.below (h : EdH lo hi w a es b ps) (hb : Below w.heap.size w w') : EdH lo hi w' a es b ps := by
  obtain ⟨S1, S2, h1, h2, r⟩ := h
  exact ⟨S1, S2, h1.below hb, h2.below hb, r⟩
theorem EdM.below (h : EdM lo hi w a es b ps) (hb : Below w.heap.size w w') : EdM lo hi w' a es b ps := by
  obtain ⟨S1, S2, h1, h2, r⟩ := h
  exact ⟨S1, S2, h1.below hb, h2.below hb, r⟩
theorem EdH.turned (h : EdH lo hi w a es b ps) {x y : Nat} (ht : Turned x y w w') (hn : hi ≤ x ∨ y ≤ lo) : EdH lo hi w' a es b ps := by
  obtain ⟨S1, S2, h1, h2, l1, l2, d⟩ := h
  have t := TurnS.of (S := fun k => x ≤ k ∧ k < y) ht (fun k h1 h2 => ⟨h1, h2⟩)
  exact ⟨S1, S2, h1.turned t (fun k hk e => by have := l1 k hk; omega), h2.turned t (fun k hk e => by have := l2 k hk; omega), l1, l2, d⟩
end

theorem AePost.form {q : Int} {es : List (Int × List Int)} {ps : List (List Int)} {w w' : World} {e : Ending} (h : AePost q es ps w e w') : ∃ a c b d, e = .returned (.agg #[.int .i64 q, .slice a es.length c, .slice b ps.length d]) ∧ Below w.heap.size w w' ∧ EdH w.heap.size w'.heap.size w' a es b ps := by
  obtain ⟨v1, V1, v2, V2, rfl, g, hA⟩ := h
  obtain ⟨a, c, e1, o1⟩ := hA.e.own hA.s1
  obtain ⟨b, d, e2, o2⟩ := hA.p.own hA.s2
  refine ⟨a, c, b, d, by rw [e1, e2], g, blkP v1 V1, blkP v2 V2, ?_, ?_, fun k hk => hA.e.lt hk, fun k hk => hA.p.lt hk, hA.d⟩
  · rcases o1 with o1 | ⟨g1, A, C, F, e3, o1⟩
    · exact .inl o1
    · exact .inr ⟨g1, A, C, F, e3, o1⟩
  · rcases o2 with o2 | ⟨g1, A, C, F, e3, o2⟩
    · exact .inl o2
    · exact .inr ⟨g1, A, C, F, e3, o2⟩

theorem eqEd_same (q : Int) (a b x y : Option Addr) (n m c d c' d' : Nat) (es : List (Int × List Int)) (ps : List (List Int)) (lo hi lo' hi' : Nat) (w : World) (hn : es.length = n) (hp : ps.length = m) (hm : bigE es ≤ 2000000) (hm' : bigQ ps ≤ 13000000) (h : EdH lo hi w a es b ps) (h' : EdH lo' hi' w x es y ps) :
    Calls Tryz.prog 39 #[.agg #[.int .i64 q, .slice a n c, .slice b m d], .agg #[.int .i64 q, .slice x n c', .slice y m d']] w fun e w' => e = .returned (.bool true) ∧ Below w.heap.size w w' := by
  obtain ⟨S1, S2, h1, h2, _⟩ := h
  obtain ⟨S3, S4, h3, h4, _⟩ := h'
  exact eqEditsResult_same q S1 S2 S3 S4 a b x y n m c d c' d' es ps w hn hp (by omega) hm' h1 h2 h3 h4
theorem markEd_any (q : Int) (a b : Option Addr) (n m c d : Nat) (es : List (Int × List Int)) (ps : List (List Int)) (lo hi : Nat) (w : World) (hn : es.length = n) (hp : ps.length = m) (hm : bigE es ≤ 2000000) (hm' : bigQ ps ≤ 13000000) (h : EdH lo hi w a es b ps) (hh : hi ≤ w.heap.size) :
    Calls Tryz.prog 42 #[.agg #[.int .i64 q, .slice a n c, .slice b m d], .int .i64 1] w fun e w' => e = .returned (.int .i64 (endQ ps (endE es 1))) ∧ Turned lo hi w w' ∧ EdM lo hi w' a es b ps := by
  obtain ⟨S1, S2, h1, h2, l1, l2, d0⟩ := h
  refine (markEditsResult_any q S1 S2 a b n m c d es ps w hn hp hm hm' h1 h2 d0 (fun k hk => Nat.lt_of_lt_of_le (l1 k hk).2 hh) (fun k hk => Nat.lt_of_lt_of_le (l2 k hk).2 hh)).mono ?_
  rintro e w' ⟨rfl, t, m1, m2⟩
  refine ⟨rfl, ⟨t.os, t.tape, t.output, t.size, fun k hk hn => t.block k hk (fun hs => ?_)⟩, S1, S2, m1, m2, l1, l2⟩
  rcases hs with hs | hs
  · exact hn (l1 k hs)
  · exact hn (l2 k hs)
theorem heldEd_any (q : Int) (a b : Option Addr) (n m c d : Nat) (es : List (Int × List Int)) (ps : List (List Int)) (lo hi : Nat) (w : World) (hn : es.length = n) (hp : ps.length = m) (hm : bigE es ≤ 2000000) (hm' : bigQ ps ≤ 13000000) (h : EdM lo hi w a es b ps) :
    Calls Tryz.prog 43 #[.agg #[.int .i64 q, .slice a n c, .slice b m d], .int .i64 1] w fun e w' => e = .returned (.int .i64 (endQ ps (endE es 1))) ∧ Below w.heap.size w w' := by
  obtain ⟨S1, S2, h1, h2, _⟩ := h
  exact heldEditsResult_any q S1 S2 a b n m c d es ps w hn hp hm hm' h1 h2
theorem endQE_pos (es : List (Int × List Int)) (ps : List (List Int)) (hm : bigE es ≤ 2000000) : 0 ≤ endQ ps (endE es 1) := endQ_pos ps (endE_le es (k := 1) hm (by omega) (by omega)).1

/-- Three cells of an answer that is kept. -/
structure RsE (w : World) (b : Nat) (q : Int) (a1 : Option Addr) (n1 c1 : Nat) (a2 : Option Addr) (n2 c2 : Nat) : Prop where
  c0 : w.cell? ⟨b, 0, none⟩ = some (.int .i64 q)
  c1 : w.cell? ⟨b, 1, none⟩ = some (.slice a1 n1 c1)
  c2 : w.cell? ⟨b, 2, none⟩ = some (.slice a2 n2 c2)
section
variable {w w' : World} {b : Nat} {q : Int} {a1 a2 : Option Addr} {n1 d1 n2 d2 : Nat}
theorem RsE.lt (h : RsE w b q a1 n1 d1 a2 n2 d2) : b < w.heap.size := World.block_lt_of_cell? w _ h.c0
theorem RsE.turned (h : RsE w b q a1 n1 d1 a2 n2 d2) {lo hi : Nat} (ht : Turned lo hi w w') (hn : b < lo ∨ hi ≤ b) : RsE w' b q a1 n1 d1 a2 n2 d2 := ⟨ht.cell (p := ⟨b, 0, none⟩) h.c0 hn, ht.cell (p := ⟨b, 1, none⟩) h.c1 hn, ht.cell (p := ⟨b, 2, none⟩) h.c2 hn⟩
theorem RsE.below (h : RsE w b q a1 n1 d1 a2 n2 d2) (hb : Below w.heap.size w w') : RsE w' b q a1 n1 d1 a2 n2 d2 := h.turned (Turned.ofBelow (lo := 0) (hi := 0) hb) (.inr (Nat.zero_le _))
end

/-- How much there is at most. -/
theorem took_le (Z : Nat → List Int) (m : Nat) : ∀ n, (∀ i, i < n → (Z i).length ≤ m) → took Z n ≤ m * n
  | 0, _ => by simp [took]
  | n + 1, h => by
    have h1 := took_le Z m n (fun i hi => h i (by omega))
    have h2 := h n (by omega)
    simp only [took]
    rw [Nat.mul_succ]
    omega
theorem bigE_le {es : List (Int × List Int)} (h : ∀ e ∈ es, e.2.length ≤ 64) (hl : es.length ≤ 1000) : bigE es ≤ 2000000 := by
  have h1 := took_le (eZ es) 64 es.length (fun i hi => by
    unfold eZ
    rw [List.getD_eq_getElem?_getD, List.getElem?_eq_getElem hi, Option.getD_some]
    exact h _ (List.getElem_mem hi))
  unfold bigE
  omega
theorem bigQ_le {ps : List (List Int)} (h : ∀ zs ∈ ps, zs.length ≤ 64) (hl : ps.length ≤ 1000) : bigQ ps ≤ 13000000 := by
  have h1 := took_le (pZ ps) 64 ps.length (fun i hi => by
    unfold pZ
    rw [List.getD_eq_getElem?_getD, List.getElem?_eq_getElem hi, Option.getD_some]
    exact h _ (List.getElem_mem hi))
  unfold bigQ
  omega

end Go.Proofs.YtfjdochjcplifaaGreat
