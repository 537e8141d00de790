/-
  The program's UpdateEdits.
-/
import Derived.Test.YtnfolgoloaeanaaGreatUUpz
import Derived.Test.YtnfolgoloaeanaaGreatUMis
import Derived.Test.YtnfolgoloaeanaaGreatUIpl

namespace Go.Proofs.YtnfolgoloaeanaaGreat
open Go.RowKit
set_option linter.unusedVariables false
set_option maxRecDepth 20000

set_option maxHeartbeats 4000000 in
theorem implUpdateEdits_any (a : Option Addr) (ps : List (List Int)) (n c : Nat) (t k v : Int) (s : ByteArray) (w : World) (hn : ps.length = n) (hm : n ≤ 1048576) (hp : PgOk ps) (hr : PgRdN w a ps) (hrd : PgRead w a ps) (hs : s.size ≤ maxLen) :
    Calls Tryz.prog 20 #[.slice a n c, .agg #[.int .i64 t, .int .i64 k, .int .i64 v, .string s]] w fun e w' => AePost (uQ ps t k v s) (uE ps t k v s) (uP ps t k v s) w e w' := by
  have HN : Hid (ps.length = n) := hn
  have HRn : Hid (PgRdN w a ps) := hr
  have HRd : Hid (PgRead w a ps) := hrd
  have ff0 : ∀ (q p l t k v : Int) (s : ByteArray) (W : World), (Instr.field 38 (.agg #[.int .i64 q, .int .i64 p, .int .i64 l, .int .i64 t, .int .i64 k, .int .i64 v, .string s]) 0).run Tryz.prog W = .ok (.int .i64 q) W := fun _ _ _ _ _ _ _ _ => by kernel_rfl
  clear hn hr hrd
  go_enter Tryz.func20, Tryz.ntmps20
  go_upto_region 1 with (fail)
  generalize hY : World.alloc _ _ = Y
  have gY : Below w.heap.size w Y := by rw [← hY]; go_grown
  have hYs : Y.heap.size = w.heap.size + 2 := by rw [← hY]; simp
  have hrow : RowC Y w.heap.size 0 ⟨t, k, v, s⟩ := by rw [← hY]; exact ⟨by simp [go_sem], by simp [go_sem], by simp [go_sem], by simp [go_sem]⟩
  have hO : Rs3 Y (w.heap.size + 1) := by rw [← hY]; exact ⟨by simp [go_sem], by simp [go_sem], by simp [go_sem], by simp [go_sem], by simp [go_sem], by simp [go_sem]⟩
  clear hY
  obtain ⟨rb, hrb⟩ : ∃ rb, w.heap.size + 1 = rb := ⟨_, rfl⟩
  simp only [hrb] at hO ⊢
  have hrw : w.heap.size < rb := by omega
  have hry : rb < Y.heap.size := by omega
  have hby : w.heap.size < Y.heap.size := by omega
  clear hrb hYs
  have HO : Hid (∀ V, Below Y.heap.size Y V → Rs3 V rb) := fun V hV => hO.below hV hry
  have HRw : Hid (∀ V, Below Y.heap.size Y V → RowAt V w.heap.size t k v s) := fun V hV => (hrow.below hV hby).at0
  have HG : Hid (∀ V, Below Y.heap.size Y V → Below w.heap.size w V) := fun V hV => gY.trans (hV.mono gY.size)
  have HPf : Hid (∀ V, Below Y.heap.size Y V → Calls Tryz.prog 50 #[.slice a n c] V fun e w' => e = .returned (.int .i64 (viewQ ps)) ∧ Below V.heap.size V w') := fun V hV => implPagesFault_any a ps n c V HN.out (by omega) hp (HRd.out.below (HG.out _ hV) (Nat.le_refl _))
  obtain ⟨qv, hqv⟩ : ∃ q, viewQ ps = q := ⟨_, rfl⟩
  obtain ⟨qf, hqf⟩ : ∃ q, faultI t k v s = q := ⟨_, rfl⟩
  have HRf : Hid (∀ V : World, Calls Tryz.prog 51 #[.agg #[.int .i64 t, .int .i64 k, .int .i64 v, .string s]] V fun e w' => e = .returned (.int .i64 qf) ∧ Below V.heap.size V w') := fun V => by rw [← hqf]; exact implRowFault_any t k v s V hs
  rw [hqv] at HPf
  have HQv : Hid (viewQ ps = qv) := hqv
  have HQf : Hid (faultI t k v s = qf) := hqf
  have H : IsS Y w.heap.size t k v s Y.drew := ⟨HRw.out _ (Below.refl _ Y).drew, (Below.refl _ Y).drew⟩
  clear hrow hO gY hqv hqf
  refine wp_region_held_drew (S := IsS Y w.heap.size t k v s) (by kernel_rfl) H (fun hHeld => ?_)
  generalize Y.drew = D at hHeld ⊢
  clear H
  refine tkH (i := 0) (v := ?v1) rfl (Or.inl ⟨by kernel_rfl, ?h1⟩) hHeld ?_
  case h1 => intro u hSw; clear hSw; go_simp; try with_reducible rfl
  try simp only [Act.put, tdy]
  refine tkH (i := 2) (v := ?v2) rfl (Or.inl ⟨by kernel_rfl, ?h2⟩) hHeld ?_
  case h2 => intro u hSw; (obtain ⟨z0, z1, z2, z3⟩ := hSw.c); clear hSw; go_simp; try with_reducible rfl
  try simp only [Act.put, tdy]
  refine wpAnyH_ready (rs := [1]) (by kernel_rfl) (by simp) ?_
  refine AllReadyH.cons rfl (fun K hK => ?_) AllReadyH.nil
  go_simp
  go_wp2_with (go_at_call 50; refine (HPf.out _ hHeld.g).mono ?_; rintro e D1 ⟨rfl, gb⟩)
  refine hK.out _ _ (hHeld.up gb) (fun hHeld => ?_)
  clear hK K
  clear gb
  try simp only [Act.put, tdy]
  refine wpAnyH_ready (rs := [3]) (by kernel_rfl) (by simp) ?_
  refine AllReadyH.cons rfl (fun K hK => ?_) AllReadyH.nil
  go_simp
  go_wp2_with (go_at_call 51; refine (HRf.out _).mono ?_; rintro e D2 ⟨rfl, gb⟩)
  refine hK.out _ _ (hHeld.up gb) (fun hHeld => ?_)
  clear hK K
  clear gb
  try simp only [Act.put, tdy]
  refine wpAnyH_ready (rs := [4]) (by kernel_rfl) (by simp) ?_
  refine AllReadyH.cons rfl (fun K hK => ?_) AllReadyH.nil
  go_simp
  go_wp2_with fail
  refine hK.out _ _ (hHeld.up (by go_grown)) (fun hHeld => ?_)
  clear hK K
  try simp only [Act.put, tdy]
  refine wpAnyH_ready (rs := [5]) (by kernel_rfl) (by simp) ?_
  refine AllReadyH.cons rfl (fun K hK => ?_) AllReadyH.nil
  go_simp
  go_wp2_with (go_at_call 49; refine (or64_any _ qv qf _ (by simp [go_sem]) (by simp [go_sem])).mono ?_; rintro e D3 ⟨rfl, rfl⟩)
  refine hK.out _ _ (hHeld) (fun hHeld => ?_)
  clear hK K
  try simp only [Act.put, tdy]
  refine tkH (i := 6) (v := ?v3) rfl (Or.inl ⟨by kernel_rfl, ?h3⟩) hHeld ?_
  case h3 => intro u hSw; clear hSw; go_simp; try with_reducible rfl
  try simp only [Act.put, tdy]
  refine wpAnyH_done (by kernel_rfl) ?_ _
  generalize World.alloc _ _ = D4 at hHeld ⊢
  obtain ⟨C, g⟩ := hHeld
  by_cases hq : orC qv qf = 0
  · obtain ⟨hv0, hf0⟩ := orC_zero.1 hq
    have HV : Hid (viewQ ps = 0) := HQv.out.trans hv0
    have HF : Hid (faultI t k v s = 0) := HQf.out.trans hf0
    rw [hq]
    obtain ⟨⟨t0, t1⟩, ⟨k0, k1⟩, ⟨v0, v1⟩, hs8⟩ := fault_bounds HF.out
    have h12 : n ≤ 12 := by rw [← HN.out]; exact (view_zero HV.out).1
    have hfr := implFindRow_any a ps n c t k D4 HN.out (by omega) hp (HRd.out.below (HG.out _ g) (Nat.le_refl _))
    obtain ⟨z0, z1, z2, z3⟩ := C
    clear hq hv0 hf0 z2 z3 HPf HRf HQv HQf
    rcases find_deZ hp t k with ⟨z, hz, hfe, _⟩ | ⟨hz, q, hfe, hqn, _⟩
    · rw [hfe] at hfr
      simp only [toPl, plV] at hfr
      have HE : Hid _ := u_some HV.out HF.out hz
      obtain ⟨_, _, _, pn, sn, zs, hZ⟩ := deZ_at hp hz
      obtain ⟨hp', hs', ys, e1, e2, e3, e4, hCy, _, _⟩ := hZ.homU
      rw [hZ.p, hZ.s] at hfr
      have HUz : Hid (uzR ps z t k v s = if rowQ z t k v s = true then (([], ps), true) else upS ([], ps) pn sn hp' hs' (cellBytes (flgU pn sn hp' hs') t k v s) (cellBytes 2 t k v s)) := by show _ = _; unfold uzR; rw [e1, e2, e3]
      have hrq : rowQ z t k v s = ((z.c.t == t) && (z.c.k == k) && (z.c.v == v) && decide (z.c.s = s)) := rfl
      have HRq : Hid _ := hrq
      have HZc : Hid (CelIn ps pn sn zs) := hZ.c
      have HHv : Hid _ := e4
      have HCy : Hid (CelIn ps hp' hs' ys) := hCy
      generalize z.c.t = zt, z.c.k = zk, z.c.v = zv, z.c.s = zst at hfr HRq
      clear hz hfe e1 e2 e3 e4 hZ hrq hCy
      go_upto_region 5 with (go_at_call 15; refine hfr.mono ?_; rintro e w1 ⟨rfl, g1⟩; clear hfr)
      generalize hU : World.alloc w1 _ = U
      have gU1 : Below w1.heap.size w1 U := by rw [← hU]; go_grown
      have u0 : U.cell? ⟨w1.heap.size, 0, none⟩ = some (.int .i64 0) := by rw [← hU]; simp [go_sem]
      have u1 : U.cell? ⟨w1.heap.size, 1, none⟩ = some (.int .i64 (pn : Nat)) := by rw [← hU]; simp [go_sem]
      have u2 : U.cell? ⟨w1.heap.size, 2, none⟩ = some (.int .i64 (sn : Nat)) := by rw [← hU]; simp [go_sem]
      have u3 : U.cell? ⟨w1.heap.size, 3, none⟩ = some (.int .i64 zt) := by rw [← hU]; simp [go_sem]
      have u4 : U.cell? ⟨w1.heap.size, 4, none⟩ = some (.int .i64 zk) := by rw [← hU]; simp [go_sem]
      have u5 : U.cell? ⟨w1.heap.size, 5, none⟩ = some (.int .i64 zv) := by rw [← hU]; simp [go_sem]
      have u6 : U.cell? ⟨w1.heap.size, 6, none⟩ = some (.string zst) := by rw [← hU]; simp [go_sem]
      clear hU
      have hfb : w1.heap.size < U.heap.size := World.block_lt_of_cell? U _ u0
      generalize w1.heap.size = fb at u0 u1 u2 u3 u4 u5 u6 hfb ⊢
      have gU := (g.trans (g1.mono g.size)).trans (gU1.mono (Nat.le_trans g.size g1.size))
      have hYU := gU.size
      have how := ownPages_any a ps n c U HN.out (by omega) hp (HRn.out.below (HG.out _ gU) (Nat.le_refl _))
      have HO1 : Hid (∀ V, Below U.heap.size U V → Rs3 V rb) := fun V hV => HO.out _ (gU.trans (hV.mono hYU))
      have HR1 : Hid (∀ V, Below U.heap.size U V → RowAt V w.heap.size t k v s) := fun V hV => HRw.out _ (gU.trans (hV.mono hYU))
      have HG1 : Hid (∀ V, Below U.heap.size U V → Below w.heap.size w V) := fun V hV => HG.out _ (gU.trans (hV.mono hYU))
      have HFb : Hid (∀ V, Below U.heap.size U V → V.cell? ⟨fb, 1, none⟩ = some (.int .i64 (pn : Nat)) ∧ V.cell? ⟨fb, 2, none⟩ = some (.int .i64 (sn : Nat)) ∧ V.cell? ⟨fb, 3, none⟩ = some (.int .i64 zt) ∧ V.cell? ⟨fb, 4, none⟩ = some (.int .i64 zk) ∧ V.cell? ⟨fb, 5, none⟩ = some (.int .i64 zv) ∧ V.cell? ⟨fb, 6, none⟩ = some (.string zst)) := fun V hV => ⟨(hV.cell (p := ⟨fb, 1, none⟩) hfb).trans u1, (hV.cell (p := ⟨fb, 2, none⟩) hfb).trans u2, (hV.cell (p := ⟨fb, 3, none⟩) hfb).trans u3, (hV.cell (p := ⟨fb, 4, none⟩) hfb).trans u4, (hV.cell (p := ⟨fb, 5, none⟩) hfb).trans u5, (hV.cell (p := ⟨fb, 6, none⟩) hfb).trans u6⟩
      have hru : rb < U.heap.size := by omega
      clear z0 z1 g1 g gU HO HRw HG hYU hry hby gU1 u1 u2 u3 u4 u5 u6
      go_upto_region 8 with (go_at_call 52; refine how.mono ?_; rintro e w2 ⟨v2, V2, rfl, g2, hP, hS2⟩; obtain ⟨x2, k2, hv2, _⟩ := hP.own hS2; subst hv2; clear how)
      have hs2 := g2.size
      have gY2 : Below w2.heap.size w2 (w2.alloc (.cells #[.slice x2 ps.length k2, .slice none 0 0] 82)) := (Below.refl _ w2).alloc (Nat.le_refl _) _
      have hSt : HpS U.heap.size U w2.heap.size [] ps none 0 [] x2 k2 V2 (w2.alloc (.cells #[.slice x2 ps.length k2, .slice none 0 0] 82)) := ⟨⟨EdB.nil _ _, hP.below gY2, fun i j u u' g _ h => by simp at h, hS2, fun g h => by rcases h with h | ⟨u, hu, _⟩; cases h; simp at hu⟩, ⟨by simp [go_sem], by simp [go_sem], by simp [go_sem], by simp [go_sem]⟩, fun h => by rcases h with h | ⟨u, hu, _⟩; cases h; simp at hu, fun h => Nat.lt_irrefl _ (hP.lt h).2, g2.trans (gY2.mono hs2), hs2⟩
      clear hP hS2 g2 gY2 hs2 u0
      generalize w2.heap.size = ob at hSt ⊢
      generalize w2.alloc (.cells #[.slice x2 ps.length k2, .slice none 0 0] 82) = W3 at hSt ⊢
      obtain ⟨z0, z1, z2, z3⟩ := HR1.out _ hSt.g
      obtain ⟨u1, u2, u3, u4, u5, u6⟩ := HFb.out _ hSt.g
      have heq : ∀ W', (binOp .eql 26 (.agg #[.int .i64 zt, .int .i64 zk, .int .i64 zv, .string zst]) (.agg #[.int .i64 t, .int .i64 k, .int .i64 v, .string s])).run Tryz.prog W' = .ok (.bool ((zt == t) && (zk == k) && (zv == v) && decide (zst = s))) W' := fun W' => eq_row zt zk zv t k v zst s W'
      rw [← HRq.out] at heq
      by_cases hrw : rowQ z t k v s = true
      · rw [hrw] at heq
        obtain ⟨e1, e2, e3⟩ := uz_true (HUz.out.trans (if_pos hrw))
        have HE2 : Hid (uQ ps t k v s = 0 ∧ uE ps t k v s = [] ∧ uP ps t k v s = ps) := ⟨HE.out.1.trans e1, HE.out.2.1.trans e2, HE.out.2.2.trans e3⟩
        have hc1 := answer_any ob none x2 0 0 ps.length k2 W3 hSt.o
        have HS : Hid _ := hSt
        clear hSt e1 e2 e3 hrw HE HUz HRq
        go_wp2_with (go_at_call 55; refine hc1.mono ?_)
        rintro e w6 ⟨rfl, g6⟩
        have hS := HS.out.below g6
        have hg := HG1.out _ hS.g
        have hgs := hg.size
        have HA : Hid _ := hS.out (rb := rb) (m := w.heap.size) hru (by omega)
        obtain ⟨c0, c1, c2, f0, f1, f2⟩ := HO1.out _ hS.g
        clear hS HS hc1 g6 z0 z1 z2 z3 u1 u2 u3 u4 u5 u6 heq
        go_wp2_with fail
        refine bodyPost_ret (v := .agg #[.int .i64 0, .slice none 0 0, .slice x2 ps.length k2]) (by simp [results, Tryz.results20, go_sem, *]) rfl ?_
        exact AePost.mk0 HE2.out.1 HE2.out.2.1 HE2.out.2.2 (by go_grown) HA.out
      · have hrf : rowQ z t k v s = false := by simpa using hrw
        rw [hrf] at heq
        have hG0 : GdS ([], ps) 10 := (GdS.start hp HV.out).mono (by omega)
        have hup := updateRow_any U.heap.size U ob [] ps pn sn hp' hs' t k v s zs ys W3 ⟨_, _, _, _, _, _, hSt⟩ hG0 HZc.out HHv.out HCy.out.at' HCy.out.hasS HF.out
        obtain ⟨⟨⟨es, cur⟩, bo⟩, hr⟩ : ∃ r, upS ([], ps) pn sn hp' hs' (cellBytes (flgU pn sn hp' hs') t k v s) (cellBytes 2 t k v s) = r := ⟨_, rfl⟩
        rw [hr] at hup
        have HUp : Hid (Calls Tryz.prog 67 #[.pointer (some ⟨ob, 0, none⟩), .agg #[.int .i64 pn, .int .i64 sn], .agg #[.int .i64 t, .int .i64 k, .int .i64 v, .string s]] W3 fun e w' => UpPost U.heap.size U ob ((es, cur), bo) e w') := hup
        have hre := HUz.out.trans ((if_neg hrw).trans hr)
        clear hup hr hrf hrw HUz HRq hSt HHv
        cases bo with
        | true =>
          obtain ⟨e1, e2, e3⟩ := uz_true hre
          have HE2 : Hid (uQ ps t k v s = 0 ∧ uE ps t k v s = es ∧ uP ps t k v s = cur) := ⟨HE.out.1.trans e1, HE.out.2.1.trans e2, HE.out.2.2.trans e3⟩
          clear e1 e2 e3 hre HE
          go_wp2_with fail
          refine HUp.out.mono ?_
          rintro e w5 ⟨rfl, x1, k1, V1, x2', k2', V2', hS⟩
          clear z0 z1 z2 z3 u1 u2 u3 u4 u5 u6 heq HUp
          have hc1 := answer_any ob x1 x2' es.length k1 cur.length k2' w5 hS.o
          have HS : Hid _ := hS
          clear hS
          go_wp2_with (go_at_call 55; refine hc1.mono ?_)
          rintro e w6 ⟨rfl, g6⟩
          have hS := HS.out.below g6
          have hg := HG1.out _ hS.g
          have hgs := hg.size
          have HA : Hid _ := hS.out (rb := rb) (m := w.heap.size) hru (by omega)
          obtain ⟨c0, c1, c2, f0, f1, f2⟩ := HO1.out _ hS.g
          clear hS HS hc1 g6
          go_wp2_with fail
          refine bodyPost_ret (v := .agg #[.int .i64 0, .slice x1 es.length k1, .slice x2' cur.length k2']) (by simp [results, Tryz.results20, go_sem, *]) rfl ?_
          exact AePost.mk0 HE2.out.1 HE2.out.2.1 HE2.out.2.2 (by go_grown) HA.out
        | false =>
          obtain ⟨e1, e2, e3⟩ := uz_false hre
          have HE2 : Hid (uQ ps t k v s = 9 ∧ uE ps t k v s = [] ∧ uP ps t k v s = []) := ⟨HE.out.1.trans e1, HE.out.2.1.trans e2, HE.out.2.2.trans e3⟩
          clear e1 e2 e3 hre HE
          go_wp2_with fail
          refine HUp.out.mono ?_
          rintro e w5 ⟨rfl, x1, k1, V1, x2', k2', V2', hS⟩
          have hg5 := hS.g
          clear z0 z1 z2 z3 u1 u2 u3 u4 u5 u6 heq HUp hS
          have hc1 := answer_full ob w5
          go_wp2_with (go_at_call 55; refine hc1.mono ?_)
          rintro e w6 ⟨rfl, g6⟩
          have g7 := hg5.trans (g6.mono hg5.size)
          obtain ⟨c0, c1, c2, f0, f1, f2⟩ := HO1.out _ g7
          have g8 := HG1.out _ g7
          have hgs := g8.size
          clear hc1 g6 g7 hg5
          go_wp2_with fail
          refine bodyPost_ret (v := .agg #[.int .i64 9, .slice none 0 0, .slice none 0 0]) (by simp [results, Tryz.results20, go_sem, *]) rfl ?_
          rw [HE2.out.1]
          exact AePost.nil HE2.out.2.1 HE2.out.2.2 (by go_grown)
    · have hi := key_in ⟨t0, t1⟩ ⟨k0, k1⟩
      rw [find_none4 hp HV.out hi hz] at hfr
      simp only [rp, plV] at hfr
      have HE : Hid _ := u_none HV.out HF.out hz
      clear hz hfe hqn hi
      go_upto_region 5 with (go_at_call 15; refine hfr.mono ?_; rintro e w1 ⟨rfl, g1⟩; clear hfr)
      generalize hU : World.alloc w1 _ = U
      have gU1 : Below w1.heap.size w1 U := by rw [← hU]; go_grown
      have u0 : U.cell? ⟨w1.heap.size, 0, none⟩ = some (.int .i64 4) := by rw [← hU]; simp [go_sem]
      clear hU
      have gU := (g.trans (g1.mono g.size)).trans (gU1.mono (Nat.le_trans g.size g1.size))
      generalize w1.heap.size = fb at u0 ⊢
      obtain ⟨c0, c1, c2, f0, f1, f2⟩ := HO.out _ gU
      have g3 := HG.out _ gU
      have hgs := g3.size
      clear z0 z1 g1 g gU gU1
      go_wp2_with fail
      refine bodyPost_ret (v := .agg #[.int .i64 4, .slice none 0 0, .slice none 0 0]) (by simp [results, Tryz.results20, go_sem, *]) rfl ?_
      rw [HE.out.1]
      exact AePost.nil HE.out.2.1 HE.out.2.2 (by go_grown)
  · have HE : Hid (uQ ps t k v s = orC qv qf ∧ uE ps t k v s = [] ∧ uP ps t k v s = []) := by
      by_cases h0 : viewQ ps = 0
      · have hqv0 : qv = 0 := HQv.out.symm.trans h0
        have hf : faultI t k v s ≠ 0 := fun h => hq (orC_zero.2 ⟨hqv0, HQf.out.symm.trans h⟩)
        obtain ⟨e1, e2, e3⟩ := u_fault h0 hf
        refine ⟨e1.trans ?_, e2, e3⟩
        unfold orC; rw [if_pos hqv0]; exact HQf.out
      · obtain ⟨e1, e2, e3⟩ := u_view (t := t) (k := k) (v := v) (s := s) h0
        refine ⟨e1.trans ?_, e2, e3⟩
        unfold orC; rw [if_neg (fun h => h0 (HQv.out.trans h))]; exact HQv.out
    have dv : (orC qv qf != 0) = true := by simpa using hq
    generalize orC qv qf = q at dv HE ⊢
    obtain ⟨c0, c1, c2, f0, f1, f2⟩ := HO.out _ g
    have g3 := HG.out _ g
    have hgs := g3.size
    clear hq g C HPf HRf
    go_wp2_with fail
    refine bodyPost_ret (v := .agg #[.int .i64 q, .slice none 0 0, .slice none 0 0]) (by simp [results, Tryz.results20, go_sem, *]) rfl ?_
    rw [HE.out.1]
    exact AePost.nil HE.out.2.1 HE.out.2.2 (by go_grown)


theorem R3X.gX {P : Nat → Prop} {B : Nat → Option Obj} {n₀ : Nat} {X : World} {ob : Nat} {es : List (Int × List Int)} {ps : List (List Int)} {V : World} (h : R3X P B n₀ X ob es ps V) : Below n₀ X V := by
  obtain ⟨x1, k1, V1, x2, k2, V2, h⟩ := h
  exact h.g
/-- The cells of a spot. -/
structure SpF (b pn sn : Nat) (fl cp cl zt zk zv : Int) (zst : ByteArray) (V : World) : Prop where
  c0 : V.cell? ⟨b, 0, none⟩ = some (.int .i64 pn)
  c1 : V.cell? ⟨b, 1, none⟩ = some (.int .i64 sn)
  c3 : V.cell? ⟨b, 3, none⟩ = some (.int .i64 fl)
  c4 : V.cell? ⟨b, 4, none⟩ = some (.int .i64 cp)
  c5 : V.cell? ⟨b, 5, none⟩ = some (.int .i64 cl)
  c6 : V.cell? ⟨b, 6, none⟩ = some (.int .i64 zt)
  c7 : V.cell? ⟨b, 7, none⟩ = some (.int .i64 zk)
  c8 : V.cell? ⟨b, 8, none⟩ = some (.int .i64 zv)
  c9 : V.cell? ⟨b, 9, none⟩ = some (.string zst)
theorem SpF.below {b pn sn : Nat} {fl cp cl zt zk zv : Int} {zst : ByteArray} {V V' : World} (h : SpF b pn sn fl cp cl zt zk zv zst V) {B : Nat} (g : Below B V V') (hb : b < B) : SpF b pn sn fl cp cl zt zk zv zst V' :=
  ⟨(g.cell (p := ⟨b, 0, none⟩) hb).trans h.c0, (g.cell (p := ⟨b, 1, none⟩) hb).trans h.c1, (g.cell (p := ⟨b, 3, none⟩) hb).trans h.c3, (g.cell (p := ⟨b, 4, none⟩) hb).trans h.c4, (g.cell (p := ⟨b, 5, none⟩) hb).trans h.c5, (g.cell (p := ⟨b, 6, none⟩) hb).trans h.c6, (g.cell (p := ⟨b, 7, none⟩) hb).trans h.c7, (g.cell (p := ⟨b, 8, none⟩) hb).trans h.c8, (g.cell (p := ⟨b, 9, none⟩) hb).trans h.c9⟩

set_option maxHeartbeats 8000000 in
theorem l7Move_any (n₀ : Nat) (X : World) (ob : Nat) (es : List (Int × List Int)) (cur : List (List Int)) (b rb ro pn sn hp hs : Nat) (t k v zt zk zv : Int) (s zst : ByteArray) (zs ys : List Int) (w : World) (hS : R3 n₀ X ob es cur w) (hG : GdS (es, cur) 10) (hz : cur[pn]? = some zs) (hzs : HasS zs sn) (hy : cur[hp]? = some ys) (hys : HasS ys hs) (hne : ¬ (hp = pn ∧ hs = sn)) (hf : faultI t k v s = 0) (HSp0 : ∀ V, Below n₀ X V → SpF b pn sn 1 hp hs zt zk zv zst V) (HRw0 : ∀ V, Below n₀ X V → RowC V rb ro ⟨t, k, v, s⟩) :
    Calls Tryz.prog 126 #[.pointer (some ⟨ob, 0, none⟩), .pointer (some ⟨b, 0, none⟩), .pointer (some ⟨rb, ro, none⟩)] w fun e w' => UpPost n₀ X ob (upS (es, cur) pn sn hp hs (cellBytes 2 t k v s) (cellBytes 2 t k v s)) e w' := by
  obtain ⟨⟨t0, t1⟩, ⟨k0, k1⟩, ⟨v0, v1⟩, hs8⟩ := fault_bounds hf
  have HBd : Hid (∀ z ∈ cellBytes 2 t k v s, 0 ≤ z ∧ z ≤ 255) := cellB_bd (f := 2) (by omega) (by omega) t0 t1 k0 k1 v0 v1 hs8
  have HLen : Hid ((cellBytes 2 t k v s).length = 6 + s.size) := cellB_len 2 t k v s
  obtain ⟨fl, hfl⟩ : ∃ fl : Int, 1 = fl := ⟨_, rfl⟩
  obtain ⟨cp, hcp⟩ : ∃ cp : Int, (hp : Int) = cp := ⟨_, rfl⟩
  obtain ⟨cl, hcl⟩ : ∃ cl : Int, (hs : Int) = cl := ⟨_, rfl⟩
  have HSp : Hid (∀ V, Below n₀ X V → SpF b pn sn fl cp cl zt zk zv zst V) := fun V hV => by rw [← hfl, ← hcp, ← hcl]; exact HSp0 V hV
  subst hfl hcp hcl
  obtain ⟨x1, k1', V1, x2, k2', V2, hSw⟩ := id hS
  have hcc := l1CellO_any 2 t k v s rb ro w (by omega) (by omega) t0 t1 k0 k1 v0 v1 hs8 (HRw0 w hSw.g)
  have hp12 : hp < 12 := by have h1 := (List.getElem?_eq_some_iff.1 hy).1; have h2 := hG.l; dsimp only at h2; omega
  clear hSw HSp0 HRw0
  go_enter Tryz.func126, Tryz.ntmps126
  go_wp2_with fail
  refine hcc.mono ?_
  rintro e w1 ⟨g, cc, rfl, g1, hBy⟩
  obtain ⟨hg1, hg2⟩ := hBy.at' (by rw [HLen.out]; omega)
  have hX : R3X (fun q => q = g) (fun q => w1.heap[q]?) n₀ X ob es cur w1 := hS.more g1 (fun q hq => by omega)
  have hC := cx_at (P := fun q => q = g) (g := g) rfl hBy HLen.out (by omega) (by omega) HBd.out
  have HC : Hid (Cx (fun q => q = g) g 0 (fun q => w1.heap[q]?) (cellBytes 2 t k v s) (6 + s.size)) := hC
  obtain ⟨x1, k1', V1, x2, k2', V2, hx1⟩ := id hX
  have htc := l7Set_any _ _ n₀ X ob es cur x1 k1' V1 x2 k2' V2 hp hs g 0 (6 + s.size) cc ys (cellBytes 2 t k v s) w1 hx1 hG.p hG.l (by have := hG.e; dsimp only at this; omega) hy hys hC
  obtain ⟨⟨⟨es1, cur1⟩, bo⟩, hR⟩ : ∃ R, stS (es, cur) hp hs ys (cellBytes 2 t k v s) = R := ⟨_, rfl⟩
  rw [hR] at htc
  have HTc : Hid (Calls Tryz.prog 127 #[.pointer (some ⟨ob, 0, none⟩), .int .i64 hp, .int .i64 hs, .slice (some ⟨g, 0, none⟩) (6 + s.size) cc] w1 fun e w' => TsPost (fun q => q = g) (fun q => w1.heap[q]?) n₀ X ob ((es1, cur1), bo) e w') := htc
  have HR : Hid (stS (es, cur) hp hs ys (cellBytes 2 t k v s) = ((es1, cur1), bo)) := hR
  have hG1 : GdS (es1, cur1) 12 := by
    have h1 := hG.st (p := hp) (cs := cellBytes 2 t k v s) hp12 (hG.p.at hy) hys HBd.out (by rw [HLen.out]; omega)
    rw [hR] at h1
    exact h1
  have hK1 : Keep (es, cur) (es1, cur1) := by
    have h1 := Keep.st (s := (es, cur)) (cs := cellBytes 2 t k v s) (hG.p.at hy) hy hys (by rw [HLen.out]; omega)
    rw [hR] at h1
    exact h1
  obtain ⟨r0, r1, r3, r4, r5, r6, r7, r8, r9⟩ := HSp.out _ hX.gX
  clear htc hC hR hx1 hX hcc g1 hg1 hg2 hBy
  go_wp2_with fail
  refine HTc.out.mono ?_
  rintro e w2 ⟨rfl, hX⟩
  try dsimp only at hX
  clear r0 r1 r3 r4 r5 r6 r7 r8 r9 HTc
  cases bo with
  | true =>
    have HE : Hid (upS (es, cur) pn sn hp hs (cellBytes 2 t k v s) (cellBytes 2 t k v s) = ((es1, cur1), true)) := up_true (s := (es, cur)) hy HR.out
    go_wp2_with fail
    go_ret
    rw [HE.out]
    exact ⟨rfl, hX.plain⟩
  | false =>
    have hup := up_false (s := (es, cur)) (pn := pn) (sn := sn) (c2 := cellBytes 2 t k v s) hy HR.out
    have hpl := l7Place_any _ _ n₀ X ob es1 cur1 hp g 0 (6 + s.size) cc _ w2 hX hG1.p hG1.l (by have := hG1.e; dsimp only at this; omega) HC.out
    obtain ⟨⟨⟨es2, cur2⟩, ro2⟩, hpr⟩ : ∃ r, plS hp (cellBytes 2 t k v s) cur1.length 0 (es1, cur1) = r := ⟨_, rfl⟩
    rw [hpr] at hpl
    have HPl : Hid (Calls Tryz.prog 112 #[.pointer (some ⟨ob, 0, none⟩), .int .i64 hp, .slice (some ⟨g, 0, none⟩) (6 + s.size) cc] w2 fun e w' => PlPost (fun q => q = g) (fun q => w1.heap[q]?) n₀ X ob ((es2, cur2), ro2) e w') := hpl
    have HPr : Hid (plS hp (cellBytes 2 t k v s) cur1.length 0 (es1, cur1) = ((es2, cur2), ro2)) := hpr
    have h121 := hG1.l
    have hG2 : GdS (es2, cur2) 50 := by
      have h1 := GdS.pl hp HBd.out (by rw [HLen.out]; omega) (by rw [HLen.out]; omega) cur1.length 0 (es1, cur1) 12 hG1 (by simp)
      rw [hpr] at h1
      exact h1.mono (by dsimp only at h121; omega)
    have hK2 : Keep (es, cur) (es2, cur2) := by
      have h1 := Keep.pl hp cur1.length 0 (es1, cur1) hG1.p HBd.out (by rw [HLen.out]; omega) (by simp)
      rw [hpr] at h1
      exact hK1.trans h1
    have hPlc : ∀ y, ro2 = some y → y.1 ≤ 11 ∧ y.2 ≤ 15 := fun y hy' => pl_place hp HBd.out (by rw [HLen.out]; omega) cur1.length 0 (es1, cur1) hG1.p hG1.l (by simp) y (by rw [hpr]; exact hy')
    clear hpl hpr hX
    go_wp2_with fail
    refine HPl.out.mono ?_
    rintro e w3 ⟨rfl, hX⟩
    try dsimp only at hX
    clear HPl
    cases ro2 with
    | none =>
      have HE : Hid (upS (es, cur) pn sn hp hs (cellBytes 2 t k v s) (cellBytes 2 t k v s) = ((es2, cur2), false)) := hup.trans (mv_none (s := (es1, cur1)) HPr.out)
      clear hup
      go_wp2_with fail
      go_ret
      rw [HE.out]
      exact ⟨rfl, hX.plain⟩
    | some x =>
      obtain ⟨hx1, hx2⟩ := hPlc x rfl
      obtain ⟨zs2, hz2, hh2⟩ := hK2 pn sn zs hz hzs
      obtain ⟨ys2, hy2, hyh2⟩ := hK2 hp hs ys hy hys
      have HE : Hid _ := hup.trans (mv_some (s := (es1, cur1)) (sn := sn) (hs := hs) HPr.out hz2)
      clear hup hPlc HC
      go_upto_region 9 with (fail)
      have gD : Below w3.heap.size w3 w3.drew := (Below.refl _ w3).drew
      refine wp_region_held_drew (S := SpF b pn sn 1 hp hs zt zk zv zst) (by kernel_rfl) (HSp.out _ (hX.below' gD).gX) (fun hHeld => ?_)
      have hX := (hX.below' gD).now'
      generalize w3.drew = D0 at hHeld hX ⊢
      clear gD
      refine tkH (i := 0) (v := ?v1) rfl (Or.inl ⟨by kernel_rfl, ?h1⟩) hHeld ?_
      case h1 => intro u hSw; clear hSw; go_simp; try with_reducible rfl
      try simp only [Act.put, tdy]
      refine tkH (i := 1) (v := ?v2) rfl (Or.inl ⟨by kernel_rfl, ?h2⟩) hHeld ?_
      case h2 => intro u hSw; (obtain ⟨r0, r1, r3, r4, r5, r6, r7, r8, r9⟩ := hSw); go_simp; try with_reducible rfl
      try simp only [Act.put, tdy]
      refine tkH (i := 2) (v := ?v3) rfl (Or.inl ⟨by kernel_rfl, ?h3⟩) hHeld ?_
      case h3 => intro u hSw; (obtain ⟨r0, r1, r3, r4, r5, r6, r7, r8, r9⟩ := hSw); go_simp; try with_reducible rfl
      try simp only [Act.put, tdy]
      refine tkH (i := 3) (v := ?v4) rfl (Or.inl ⟨by kernel_rfl, ?h4⟩) hHeld ?_
      case h4 => intro u hSw; (obtain ⟨r0, r1, r3, r4, r5, r6, r7, r8, r9⟩ := hSw); go_simp; try with_reducible rfl
      try simp only [Act.put, tdy]
      refine tkH (i := 4) (v := ?v5) rfl (Or.inl ⟨by kernel_rfl, ?h5⟩) hHeld ?_
      case h5 => intro u hSw; (obtain ⟨r0, r1, r3, r4, r5, r6, r7, r8, r9⟩ := hSw); go_simp; try with_reducible rfl
      try simp only [Act.put, tdy]
      refine tkH (i := 5) (v := ?v6) rfl (Or.inl ⟨by kernel_rfl, ?h6⟩) hHeld ?_
      case h6 => intro u hSw; (obtain ⟨r0, r1, r3, r4, r5, r6, r7, r8, r9⟩ := hSw); go_simp; try with_reducible rfl
      try simp only [Act.put, tdy]
      refine tkH (i := 6) (v := ?v7) rfl (Or.inl ⟨by kernel_rfl, ?h7⟩) hHeld ?_
      case h7 => intro u hSw; (obtain ⟨r0, r1, r3, r4, r5, r6, r7, r8, r9⟩ := hSw); go_simp; try with_reducible rfl
      try simp only [Act.put, tdy]
      refine tkH (i := 7) (v := ?v8) rfl (Or.inl ⟨by kernel_rfl, ?h8⟩) hHeld ?_
      case h8 => intro u hSw; (obtain ⟨r0, r1, r3, r4, r5, r6, r7, r8, r9⟩ := hSw); go_simp; try with_reducible rfl
      try simp only [Act.put, tdy]
      refine tkH (i := 8) (v := ?v9) rfl (Or.inl ⟨by kernel_rfl, ?h9⟩) hHeld ?_
      case h9 => intro u hSw; (obtain ⟨r0, r1, r3, r4, r5, r6, r7, r8, r9⟩ := hSw); go_simp; try with_reducible rfl
      try simp only [Act.put, tdy]
      refine tkH (i := 9) (v := ?v10) rfl (Or.inl ⟨by kernel_rfl, ?h10⟩) hHeld ?_
      case h10 => intro u hSw; clear hSw; go_simp; try with_reducible rfl
      try simp only [Act.put, tdy]
      refine tkH (i := 10) (v := ?v11) rfl (Or.inl ⟨by kernel_rfl, ?h11⟩) hHeld ?_
      case h11 => intro u hSw; clear hSw; go_simp; try with_reducible rfl
      try simp only [Act.put, tdy]
      have hps := l1Stub_any x.1 x.2 D0 hx1 hx2
      refine wpAnyH_ready (rs := [11]) (by kernel_rfl) (by simp) ?_
      refine AllReadyH.cons rfl (fun K hK => ?_) AllReadyH.nil
      go_simp
      go_wp2_with (go_at_call 128; refine hps.mono ?_; rintro e Z ⟨rfl, gg, hBy⟩)
      obtain ⟨hg1, hg2⟩ := hBy.at' (by simp)
      have hX := hX.ext gg hg1 hg2
      refine hK.out _ _ (HSp.out _ hX.gX) (fun hHeld => ?_)
      clear hK K hps gg hg1 hg2
      generalize D0.heap.size = g2 at hX hBy ⊢
      try simp only [Act.put, tdy]
      have hC2 := cx_at (P := fun q => q = g ∨ q = g2) (cs := stbC x) (n := 3) (.inr rfl) hBy (stub_ok hx1 hx2).1 (by omega) (by omega) (stub_ok hx1 hx2).2
      obtain ⟨x1', k1', V1', x2', k2', V2', hx5⟩ := hX
      have htc := l7Set_any _ _ n₀ X ob es2 cur2 x1' k1' V1' x2' k2' V2' pn sn g2 0 3 3 zs2 (stbC x) Z hx5 hG2.p hG2.l (by have := hG2.e; dsimp only at this; omega) hz2 hh2 hC2
      obtain ⟨R3s, hR3s⟩ : ∃ R, stS (es2, cur2) pn sn zs2 (stbC x) = R := ⟨_, rfl⟩
      rw [hR3s] at htc
      have HTc : Hid (Calls Tryz.prog 127 #[.pointer (some ⟨ob, 0, none⟩), .int .i64 pn, .int .i64 sn, .slice (some ⟨g2, 0, none⟩) 3 3] Z fun e w' => TsPost (fun q => q = g ∨ q = g2) (fun q => Z.heap[q]?) n₀ X ob R3s e w') := htc
      have HR3 : Hid (stS (es2, cur2) pn sn zs2 (stbC x) = R3s) := hR3s
      clear htc hC2 hR3s hx5
      refine wpAnyH_ready (rs := [12]) (by kernel_rfl) (by simp) ?_
      refine AllReadyH.cons rfl (fun K hK => ?_) AllReadyH.nil
      go_simp
      go_wp2_with (go_at_call 127; refine HTc.out.mono ?_; rintro e W ⟨rfl, hX3⟩)
      refine hK.out _ _ (HSp.out _ hX3.gX) (fun hHeld => ?_)
      clear hK K HTc hBy
      try simp only [Act.put, tdy]
      refine wpAnyH_done (by kernel_rfl) ?_ _
      have hpn12 : pn < 12 := by have h1 := (List.getElem?_eq_some_iff.1 hz2).1; have h2 := hG2.l; dsimp only at h2; omega
      have hG3 : GdS R3s.1 99 := by rw [← HR3.out]; exact (hG2.st hpn12 (hG2.p.at hz2) hh2 (stub_ok hx1 hx2).2 (by rw [(stub_ok hx1 hx2).1]; omega)).mono (by omega)
      have hK3 : Keep (es2, cur2) R3s.1 := by rw [← HR3.out]; exact Keep.st (s := (es2, cur2)) (hG2.p.at hz2) hz2 hh2 (by rw [(stub_ok hx1 hx2).1]; omega)
      obtain ⟨⟨es3, cur3⟩, bo3⟩ := R3s
      try dsimp only at hX3
      obtain ⟨ys3, hy3, hh3⟩ := hK3 hp hs ys2 hy2 hyh2
      try dsimp only at hy3
      have HE2 : Hid (upS (es, cur) pn sn hp hs (cellBytes 2 t k v s) (cellBytes 2 t k v s) = ((es3 ++ [((hp : Int), drpP ys3 hs)], cur3.set hp (drpP ys3 hs)), true)) := by show _ = _; rw [HE.out, if_neg hne, HR3.out]; dsimp only; rw [getD_of hy3]; rfl
      obtain ⟨x1, k1', V1, x2, k2', V2, hX4⟩ := hX3
      have hdc := l7Drop_any n₀ X ob es3 cur3 x1 k1' V1 x2 k2' V2 hp hs ys3 W hX4.toHpS hy3 (hG3.p.at hy3) ((hasC_iff hs).2 ⟨hh3.lt, hh3.em⟩) (by have := hh3.lt; have := (hG3.p.at hy3).few; omega) hG3.l (by have := hG3.e; dsimp only at this; omega)
      clear hX4 hHeld hK3 hx2
      go_wp2_with fail
      refine hdc.mono ?_
      rintro e W4 ⟨rfl, hR4⟩
      clear hdc
      go_wp2_with fail
      go_ret
      rw [HE2.out]
      exact ⟨rfl, hR4⟩

end Go.Proofs.YtnfolgoloaeanaaGreat

