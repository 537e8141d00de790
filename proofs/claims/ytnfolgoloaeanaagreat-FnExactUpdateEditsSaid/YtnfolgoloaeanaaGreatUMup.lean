/-
  The model's l7Update.
-/
import Derived.Test.YtnfolgoloaeanaaGreatUIue

namespace Go.Proofs.YtnfolgoloaeanaaGreat
open Go.RowKit
set_option linter.unusedVariables false
set_option maxRecDepth 20000

structure SpR (b pn sn : Nat) (fl cp cl zt zk zv : Int) (zst : ByteArray) (rb ro : Nat) (t k v : Int) (s : ByteArray) (V : World) : Prop where
  p : SpF b pn sn fl cp cl zt zk zv zst V
  q0 : V.cell? ⟨rb, ro, none⟩ = some (.int .i64 t)
  q1 : V.cell? ⟨rb, ro + 1, none⟩ = some (.int .i64 k)
  q2 : V.cell? ⟨rb, ro + 2, none⟩ = some (.int .i64 v)
  q3 : V.cell? ⟨rb, ro + 3, none⟩ = some (.string s)

set_option maxHeartbeats 8000000 in
theorem l7Update_any (a : Option Addr) (ps : List (List Int)) (n c b rb ro : Nat) (z : Spt) (pn sn : Nat) (zs : List Int) (t k v : Int) (s : ByteArray) (w : World) (hn : ps.length = n) (h12 : n ≤ 12) (hp : PgOk ps) (hr : PgRdN w a ps) (hvw : viewQ ps = 0) (hZ : FndAt ps z pn sn zs) (hsp : SpF b pn sn z.c.f z.c.p z.c.l z.c.t z.c.k z.c.v z.c.s w) (hrow : RowC w rb ro ⟨t, k, v, s⟩) (hf : faultI t k v s = 0) :
    Calls Tryz.prog 68 #[.slice a n c, .pointer (some ⟨b, 0, none⟩), .pointer (some ⟨rb, ro, none⟩)] w fun e w' => AePost (uzQ ps z t k v s) (uzE ps z t k v s) (uzP ps z t k v s) w e w' := by
  have hbl : b < w.heap.size := World.block_lt_of_cell? w _ hsp.c0
  have hrl : rb < w.heap.size := World.block_lt_of_cell? w _ hrow.c0
  obtain ⟨⟨t0, t1⟩, ⟨k0, k1⟩, ⟨v0, v1⟩, hs8⟩ := fault_bounds hf
  have HBd : Hid (∀ z ∈ cellBytes 2 t k v s, 0 ≤ z ∧ z ≤ 255) := cellB_bd (f := 2) (by omega) (by omega) t0 t1 k0 k1 v0 v1 hs8
  have HLen : Hid ((cellBytes 2 t k v s).length = 6 + s.size) := cellB_len 2 t k v s
  have hO := Rs3.new w
  have gY : Below w.heap.size w (w.alloc (.cells #[.int .i64 0, .slice none 0 0, .slice none 0 0] 31)) := by go_grown
  obtain ⟨Y, hY⟩ : ∃ Y, w.alloc (.cells #[.int .i64 0, .slice none 0 0, .slice none 0 0] 31) = Y := ⟨_, rfl⟩
  rw [hY] at hO gY
  have hwY : w.heap.size < Y.heap.size := World.block_lt_of_cell? Y _ hO.c0
  have HO : Hid (∀ V, Below Y.heap.size Y V → Rs3 V w.heap.size) := fun V hV => hO.below hV hwY
  have HSp : Hid (∀ V, Below Y.heap.size Y V → SpF b pn sn z.c.f z.c.p z.c.l z.c.t z.c.k z.c.v z.c.s V) := fun V hV => (hsp.below gY hbl).below hV (by omega)
  have HRw : Hid (∀ V, Below Y.heap.size Y V → RowC V rb ro ⟨t, k, v, s⟩) := fun V hV => (hrow.below gY hrl).below hV (by omega)
  have HG : Hid (∀ V, Below Y.heap.size Y V → Below w.heap.size w V) := fun V hV => gY.trans (hV.mono gY.size)
  have hst := l7Start_any a ps n c Y hn (by omega) hp (hr.below gY (Nat.le_refl _))
  have hG : GdS ([], ps) 10 := (GdS.start hp hvw).mono (by omega)
  have hpn12 : pn < 12 := by have h1 := hZ.c.plt; omega
  obtain ⟨hq, hs', ys, e1, e2, e3, e4, hCy, hf1, hf0⟩ := hZ.homU
  have HUz : Hid (uzR ps z t k v s = if rowQ z t k v s = true then (([], ps), true) else upS ([], ps) pn sn hq hs' (cellBytes (flgU pn sn hq hs') t k v s) (cellBytes 2 t k v s)) := by show _ = _; unfold uzR; rw [e1, e2, e3]
  have HCy : Hid (CelIn ps hq hs' ys) := hCy
  clear hO hr gY hsp hrow e1 e2 e3 e4 hCy hbl hrl hn
  go_enter Tryz.func68, Tryz.ntmps68
  go_upto_region 2 with (go_at_call 111; refine hst.mono ?_; rintro e w1 ⟨ob, x2, k2', V2, rfl, hS⟩; clear hst)
  have heq : ∀ W', (binOp .eql 26 (.agg #[.int .i64 z.c.t, .int .i64 z.c.k, .int .i64 z.c.v, .string z.c.s]) (.agg #[.int .i64 t, .int .i64 k, .int .i64 v, .string s])).run Tryz.prog W' = .ok (.bool (rowQ z t k v s)) W' := fun W' => eq_row z.c.t z.c.k z.c.v t k v z.c.s s W'
  have HNr : Hid (∀ V, Below Y.heap.size Y V → SpR b pn sn z.c.f z.c.p z.c.l z.c.t z.c.k z.c.v z.c.s rb ro t k v s V) := fun V hV => by
    obtain ⟨q0, q1, q2, q3⟩ := HRw.out V hV
    exact ⟨HSp.out V hV, q0, q1, q2, q3⟩
  have hS := hS.below (Below.refl _ w1).drew
  refine wp_region_held_drew (S := SpR b pn sn z.c.f z.c.p z.c.l z.c.t z.c.k z.c.v z.c.s rb ro t k v s) (by kernel_rfl) (HNr.out _ hS.g) (fun hHeld => ?_)
  generalize w1.drew = D1 at hS hHeld ⊢
  refine tkH (i := 0) (v := ?v12) rfl (Or.inl ⟨by kernel_rfl, ?h12⟩) hHeld ?_
  case h12 => intro u hSw; (obtain ⟨⟨r0, r1, r3, r4, r5, r6, r7, r8, r9⟩, q0, q1, q2, q3⟩ := hSw; (try dsimp only at q0 q1 q2 q3)); go_simp; try with_reducible rfl
  try simp only [Act.put, tdy]
  refine tkH (i := 1) (v := ?v13) rfl (Or.inl ⟨by kernel_rfl, ?h13⟩) hHeld ?_
  case h13 => intro u hSw; (obtain ⟨⟨r0, r1, r3, r4, r5, r6, r7, r8, r9⟩, q0, q1, q2, q3⟩ := hSw; (try dsimp only at q0 q1 q2 q3)); go_simp; try with_reducible rfl
  try simp only [Act.put, tdy]
  refine tkH (i := 2) (v := ?v14) rfl (Or.inl ⟨by kernel_rfl, ?h14⟩) hHeld ?_
  case h14 => intro u hSw; (obtain ⟨⟨r0, r1, r3, r4, r5, r6, r7, r8, r9⟩, q0, q1, q2, q3⟩ := hSw; (try dsimp only at q0 q1 q2 q3)); go_simp; try with_reducible rfl
  try simp only [Act.put, tdy]
  refine tkH (i := 3) (v := ?v15) rfl (Or.inl ⟨by kernel_rfl, ?h15⟩) hHeld ?_
  case h15 => intro u hSw; (obtain ⟨⟨r0, r1, r3, r4, r5, r6, r7, r8, r9⟩, q0, q1, q2, q3⟩ := hSw; (try dsimp only at q0 q1 q2 q3)); go_simp; try with_reducible rfl
  try simp only [Act.put, tdy]
  refine tkH (i := 4) (v := ?v16) rfl (Or.inl ⟨by kernel_rfl, ?h16⟩) hHeld ?_
  case h16 => intro u hSw; (obtain ⟨⟨r0, r1, r3, r4, r5, r6, r7, r8, r9⟩, q0, q1, q2, q3⟩ := hSw; (try dsimp only at q0 q1 q2 q3)); go_simp; try with_reducible rfl
  try simp only [Act.put, tdy]
  refine tkH (i := 5) (v := ?v17) rfl (Or.inl ⟨by kernel_rfl, ?h17⟩) hHeld ?_
  case h17 => intro u hSw; (obtain ⟨⟨r0, r1, r3, r4, r5, r6, r7, r8, r9⟩, q0, q1, q2, q3⟩ := hSw; (try dsimp only at q0 q1 q2 q3)); go_simp; try with_reducible rfl
  try simp only [Act.put, tdy]
  refine tkH (i := 6) (v := ?v18) rfl (Or.inl ⟨by kernel_rfl, ?h18⟩) hHeld ?_
  case h18 => intro u hSw; (obtain ⟨⟨r0, r1, r3, r4, r5, r6, r7, r8, r9⟩, q0, q1, q2, q3⟩ := hSw; (try dsimp only at q0 q1 q2 q3)); go_simp; try with_reducible rfl
  try simp only [Act.put, tdy]
  refine tkH (i := 7) (v := ?v19) rfl (Or.inl ⟨by kernel_rfl, ?h19⟩) hHeld ?_
  case h19 => intro u hSw; (obtain ⟨⟨r0, r1, r3, r4, r5, r6, r7, r8, r9⟩, q0, q1, q2, q3⟩ := hSw; (try dsimp only at q0 q1 q2 q3)); go_simp; try with_reducible rfl
  try simp only [Act.put, tdy]
  refine tkH (i := 8) (v := ?v20) rfl (Or.inl ⟨by kernel_rfl, ?h20⟩) hHeld ?_
  case h20 => intro u hSw; (obtain ⟨⟨r0, r1, r3, r4, r5, r6, r7, r8, r9⟩, q0, q1, q2, q3⟩ := hSw; (try dsimp only at q0 q1 q2 q3)); go_simp; try with_reducible rfl
  try simp only [Act.put, tdy]
  refine wpAnyH_done (by kernel_rfl) ?_ _
  clear hHeld HNr heq
  obtain ⟨bq, hbq⟩ : ∃ bq, rowQ z t k v s = bq := ⟨_, rfl⟩
  rw [hbq]
  have HBq : Hid (rowQ z t k v s = bq) := hbq
  clear hbq
  cases bq with
  | true =>
    obtain ⟨e1, e2, e3⟩ := uz_true (HUz.out.trans (if_pos HBq.out))
    have HE : Hid (uzQ ps z t k v s = 0 ∧ uzE ps z t k v s = [] ∧ uzP ps z t k v s = ps) := ⟨e1, e2, e3⟩
    clear e1 e2 e3
    obtain ⟨x1, hx1'⟩ : ∃ x1 : Option Addr, none = x1 := ⟨_, rfl⟩
    have hc1 := l7Done_any ob none x2 0 0 ps.length k2' D1 hS.o
    have HS9 : Hid _ := hS
    clear hS hx1' x1
    go_wp2_with (go_at_call 114; refine hc1.mono ?_)
    rintro e w9 ⟨rfl, g9⟩
    have hS := HS9.out.below g9
    have hg := HG.out _ hS.g
    have hgs := hg.size
    have HA : Hid _ := hS.out (rb := w.heap.size) hwY (Nat.le_of_lt hwY)
    obtain ⟨c0, c1, c2, f0, f1, f2⟩ := HO.out _ hS.g
    clear hS HS9 hc1 g9
    go_wp2_with fail
    refine bodyPost_ret (v := .agg #[.int .i64 0, .slice none 0 0, .slice x2 ps.length k2']) (by simp [results, Tryz.results68, go_sem, *]) rfl ?_
    exact AePost.mk0 HE.out.1 HE.out.2.1 HE.out.2.2 (by go_grown) HA.out
  | false =>
    have hrn : ¬ rowQ z t k v s = true := by rw [HBq.out]; decide
    have HUz2 : Hid (uzR ps z t k v s = upS ([], ps) pn sn hq hs' (cellBytes (flgU pn sn hq hs') t k v s) (cellBytes 2 t k v s)) := HUz.out.trans (if_neg hrn)
    clear hrn HUz HBq
    obtain ⟨r0, r1, r3, r4, r5, r6, r7, r8, r9⟩ := HSp.out _ hS.g
    rcases hZ.f2 with hff | hff
    · obtain ⟨e1, e2, e3⟩ := hf0 hff
      rw [e1, e2] at HUz2
      have hfl : flgU pn sn pn sn = 0 := by unfold flgU; rw [if_pos ⟨rfl, rfl⟩]
      rw [hfl] at HUz2
      have df : (z.c.f == 1) = false := by rw [hff]; rfl
      clear hfl hf0 hf1
      go_upto_region 8 with (fail)
      clear r0 r1 r3 r4 r5 r6 r7 r8 r9 df
      have hS := hS.below (Below.refl _ D1).drew
      refine wp_region_held_drew (S := SpF b pn sn z.c.f z.c.p z.c.l z.c.t z.c.k z.c.v z.c.s) (by kernel_rfl) (HSp.out _ hS.g) (fun hHeld => ?_)
      generalize D1.drew = D0 at hS hHeld ⊢
      refine tkH (i := 0) (v := ?v21) rfl (Or.inl ⟨by kernel_rfl, ?h21⟩) hHeld ?_
      case h21 => intro u hSw; clear hSw; go_simp; try with_reducible rfl
      try simp only [Act.put, tdy]
      refine tkH (i := 1) (v := ?v22) rfl (Or.inl ⟨by kernel_rfl, ?h22⟩) hHeld ?_
      case h22 => intro u hSw; (obtain ⟨r0, r1, r3, r4, r5, r6, r7, r8, r9⟩ := hSw); go_simp; try with_reducible rfl
      try simp only [Act.put, tdy]
      refine tkH (i := 2) (v := ?v23) rfl (Or.inl ⟨by kernel_rfl, ?h23⟩) hHeld ?_
      case h23 => intro u hSw; (obtain ⟨r0, r1, r3, r4, r5, r6, r7, r8, r9⟩ := hSw); go_simp; try with_reducible rfl
      try simp only [Act.put, tdy]
      refine tkH (i := 3) (v := ?v24) rfl (Or.inl ⟨by kernel_rfl, ?h24⟩) hHeld ?_
      case h24 => intro u hSw; (obtain ⟨r0, r1, r3, r4, r5, r6, r7, r8, r9⟩ := hSw); go_simp; try with_reducible rfl
      try simp only [Act.put, tdy]
      refine tkH (i := 4) (v := ?v25) rfl (Or.inl ⟨by kernel_rfl, ?h25⟩) hHeld ?_
      case h25 => intro u hSw; (obtain ⟨r0, r1, r3, r4, r5, r6, r7, r8, r9⟩ := hSw); go_simp; try with_reducible rfl
      try simp only [Act.put, tdy]
      refine tkH (i := 5) (v := ?v26) rfl (Or.inl ⟨by kernel_rfl, ?h26⟩) hHeld ?_
      case h26 => intro u hSw; (obtain ⟨r0, r1, r3, r4, r5, r6, r7, r8, r9⟩ := hSw); go_simp; try with_reducible rfl
      try simp only [Act.put, tdy]
      refine tkH (i := 6) (v := ?v27) rfl (Or.inl ⟨by kernel_rfl, ?h27⟩) hHeld ?_
      case h27 => intro u hSw; (obtain ⟨r0, r1, r3, r4, r5, r6, r7, r8, r9⟩ := hSw); go_simp; try with_reducible rfl
      try simp only [Act.put, tdy]
      refine tkH (i := 7) (v := ?v28) rfl (Or.inl ⟨by kernel_rfl, ?h28⟩) hHeld ?_
      case h28 => intro u hSw; (obtain ⟨r0, r1, r3, r4, r5, r6, r7, r8, r9⟩ := hSw); go_simp; try with_reducible rfl
      try simp only [Act.put, tdy]
      refine tkH (i := 8) (v := ?v29) rfl (Or.inl ⟨by kernel_rfl, ?h29⟩) hHeld ?_
      case h29 => intro u hSw; (obtain ⟨r0, r1, r3, r4, r5, r6, r7, r8, r9⟩ := hSw); go_simp; try with_reducible rfl
      try simp only [Act.put, tdy]
      refine tkH (i := 9) (v := ?v30) rfl (Or.inl ⟨by kernel_rfl, ?h30⟩) hHeld ?_
      case h30 => intro u hSw; clear hSw; go_simp; try with_reducible rfl
      try simp only [Act.put, tdy]
      have hcc := l1CellO_any 0 t k v s rb ro D0 (by omega) (by omega) t0 t1 k0 k1 v0 v1 hs8 (HRw.out _ hS.g)
      have HLen0 : Hid ((cellBytes 0 t k v s).length = 6 + s.size) := cellB_len 0 t k v s
      have HBd0 : Hid (∀ z ∈ cellBytes 0 t k v s, 0 ≤ z ∧ z ≤ 255) := cellB_bd (f := 0) (by omega) (by omega) t0 t1 k0 k1 v0 v1 hs8
      refine wpAnyH_ready (rs := [10]) (by kernel_rfl) (by simp) ?_
      refine AllReadyH.cons rfl (fun K hK => ?_) AllReadyH.nil
      go_simp
      go_wp2_with (go_at_call 113; refine hcc.mono ?_; rintro e Z ⟨g, cc, rfl, gg, hBy⟩)
      obtain ⟨hg1, hg2⟩ := hBy.at' (by rw [HLen0.out]; omega)
      have hX : R3X (fun q => q = g) (fun q => Z.heap[q]?) Y.heap.size Y ob [] ps Z := R3.more ⟨_, _, _, _, _, _, hS⟩ gg (fun q hq => by omega)
      refine hK.out _ _ (HSp.out _ hX.gX) (fun hHeld => ?_)
      clear hK K hcc gg hg1 hg2 hS
      try simp only [Act.put, tdy]
      have hC := cx_at (P := fun q => q = g) (g := g) rfl hBy HLen0.out (by omega) (by omega) HBd0.out
      obtain ⟨x1, k1', V1, x2, k2', V2, hx1⟩ := id hX
      have htc := l7Set_any _ _ Y.heap.size Y ob [] ps x1 k1' V1 x2 k2' V2 pn sn g 0 (6 + s.size) cc zs (cellBytes 0 t k v s) Z hx1 hG.p hG.l (by simp) hZ.c.at' hZ.c.hasS hC
      obtain ⟨⟨⟨es1, cur1⟩, bo⟩, hR⟩ : ∃ R, stS ([], ps) pn sn zs (cellBytes 0 t k v s) = R := ⟨_, rfl⟩
      rw [hR] at htc
      have HTc : Hid (Calls Tryz.prog 127 #[.pointer (some ⟨ob, 0, none⟩), .int .i64 pn, .int .i64 sn, .slice (some ⟨g, 0, none⟩) (6 + s.size) cc] Z fun e w' => TsPost (fun q => q = g) (fun q => Z.heap[q]?) Y.heap.size Y ob ((es1, cur1), bo) e w') := htc
      have HR : Hid (stS ([], ps) pn sn zs (cellBytes 0 t k v s) = ((es1, cur1), bo)) := hR
      have hG1 : GdS (es1, cur1) 12 := by
        have h1 := hG.st (p := pn) (cs := cellBytes 0 t k v s) hpn12 (hG.p.at hZ.c.at') hZ.c.hasS HBd0.out (by rw [HLen0.out]; omega)
        rw [hR] at h1
        exact h1
      have hK1 : Keep ([], ps) (es1, cur1) := by
        have h1 := Keep.st (s := ([], ps)) (cs := cellBytes 0 t k v s) (hG.p.at hZ.c.at') hZ.c.at' hZ.c.hasS (by rw [HLen0.out]; omega)
        rw [hR] at h1
        exact h1
      clear htc hC hR hx1 hX
      refine wpAnyH_ready (rs := [11]) (by kernel_rfl) (by simp) ?_
      refine AllReadyH.cons rfl (fun K hK => ?_) AllReadyH.nil
      go_simp
      go_wp2_with (go_at_call 127; refine HTc.out.mono ?_; rintro e W1 ⟨rfl, hX⟩)
      refine hK.out _ _ (HSp.out _ hX.gX) (fun hHeld => ?_)
      clear hK K HTc hBy
      try dsimp only at hX
      try simp only [Act.put, tdy]
      refine wpAnyH_done (by kernel_rfl) ?_ _
      cases bo with
      | true =>
        have HE : Hid _ := uz_true (HUz2.out.trans (up_true (s := ([], ps)) hZ.c.at' HR.out))
        obtain ⟨x1, k1', V1, x2, k2', V2, hX4⟩ := hX
        have hS := hX4.toHpS
        clear hX4 hHeld
        have hc1 := l7Done_any ob x1 x2 es1.length k1' cur1.length k2' W1 hS.o
        have HS9 : Hid _ := hS
        clear hS
        go_wp2_with (go_at_call 114; refine hc1.mono ?_)
        rintro e w9 ⟨rfl, g9⟩
        have hS := HS9.out.below g9
        have hg := HG.out _ hS.g
        have hgs := hg.size
        have HA : Hid _ := hS.out (rb := w.heap.size) hwY (Nat.le_of_lt hwY)
        obtain ⟨c0, c1, c2, f0, f1, f2⟩ := HO.out _ hS.g
        clear hS HS9 hc1 g9
        go_wp2_with fail
        refine bodyPost_ret (v := .agg #[.int .i64 0, .slice x1 es1.length k1', .slice x2 cur1.length k2']) (by simp [results, Tryz.results68, go_sem, *]) rfl ?_
        exact AePost.mk0 HE.out.1 HE.out.2.1 HE.out.2.2 (by go_grown) HA.out
      | false =>
        have hup := HUz2.out.trans (up_false (s := ([], ps)) (pn := pn) (sn := sn) (c2 := cellBytes 2 t k v s) hZ.c.at' HR.out)
        obtain ⟨⟨⟨es2, cur2⟩, ro2⟩, hpr⟩ : ∃ r, plS pn (cellBytes 2 t k v s) cur1.length 0 (es1, cur1) = r := ⟨_, rfl⟩
        have HPr : Hid (plS pn (cellBytes 2 t k v s) cur1.length 0 (es1, cur1) = ((es2, cur2), ro2)) := hpr
        have h121 := hG1.l
        have hG2 : GdS (es2, cur2) 50 := by
          have h1 := GdS.pl pn HBd.out (by rw [HLen.out]; omega) (by rw [HLen.out]; omega) cur1.length 0 (es1, cur1) 12 hG1 (by simp)
          rw [hpr] at h1
          exact h1.mono (by dsimp only at h121; omega)
        have hK2 : Keep ([], ps) (es2, cur2) := by
          have h1 := Keep.pl pn cur1.length 0 (es1, cur1) hG1.p HBd.out (by rw [HLen.out]; omega) (by simp)
          rw [hpr] at h1
          exact hK1.trans h1
        have hPlc : ∀ y, ro2 = some y → y.1 ≤ 11 ∧ y.2 ≤ 15 := fun y hy' => pl_place pn HBd.out (by rw [HLen.out]; omega) cur1.length 0 (es1, cur1) hG1.p hG1.l (by simp) y (by rw [hpr]; exact hy')
        clear hpr hHeld
        go_upto_region 10 with (fail)
        have gD : Below W1.heap.size W1 W1.drew := (Below.refl _ W1).drew
        refine wp_region_held_drew (S := SpF b pn sn z.c.f z.c.p z.c.l z.c.t z.c.k z.c.v z.c.s) (by kernel_rfl) (HSp.out _ (hX.below' gD).gX) (fun hHeld => ?_)
        have hX := hX.below' gD
        generalize W1.drew = D0 at hHeld hX ⊢
        clear gD
        refine tkH (i := 0) (v := ?v31) rfl (Or.inl ⟨by kernel_rfl, ?h31⟩) hHeld ?_
        case h31 => intro u hSw; clear hSw; go_simp; try with_reducible rfl
        try simp only [Act.put, tdy]
        refine tkH (i := 1) (v := ?v32) rfl (Or.inl ⟨by kernel_rfl, ?h32⟩) hHeld ?_
        case h32 => intro u hSw; (obtain ⟨r0, r1, r3, r4, r5, r6, r7, r8, r9⟩ := hSw); go_simp; try with_reducible rfl
        try simp only [Act.put, tdy]
        refine tkH (i := 2) (v := ?v33) rfl (Or.inl ⟨by kernel_rfl, ?h33⟩) hHeld ?_
        case h33 => intro u hSw; (obtain ⟨r0, r1, r3, r4, r5, r6, r7, r8, r9⟩ := hSw); go_simp; try with_reducible rfl
        try simp only [Act.put, tdy]
        refine tkH (i := 3) (v := ?v34) rfl (Or.inl ⟨by kernel_rfl, ?h34⟩) hHeld ?_
        case h34 => intro u hSw; (obtain ⟨r0, r1, r3, r4, r5, r6, r7, r8, r9⟩ := hSw); go_simp; try with_reducible rfl
        try simp only [Act.put, tdy]
        refine tkH (i := 4) (v := ?v35) rfl (Or.inl ⟨by kernel_rfl, ?h35⟩) hHeld ?_
        case h35 => intro u hSw; (obtain ⟨r0, r1, r3, r4, r5, r6, r7, r8, r9⟩ := hSw); go_simp; try with_reducible rfl
        try simp only [Act.put, tdy]
        refine tkH (i := 5) (v := ?v36) rfl (Or.inl ⟨by kernel_rfl, ?h36⟩) hHeld ?_
        case h36 => intro u hSw; clear hSw; go_simp; try with_reducible rfl
        try simp only [Act.put, tdy]
        have hcc := l1CellO_any 2 t k v s rb ro D0 (by omega) (by omega) t0 t1 k0 k1 v0 v1 hs8 (HRw.out _ hX.gX)
        refine wpAnyH_ready (rs := [6]) (by kernel_rfl) (by simp) ?_
        refine AllReadyH.cons rfl (fun K hK => ?_) AllReadyH.nil
        go_simp
        go_wp2_with (go_at_call 113; refine hcc.mono ?_; rintro e Z ⟨g, cc, rfl, gg, hBy⟩)
        obtain ⟨hg1, hg2⟩ := hBy.at' (by rw [HLen.out]; omega)
        have hX : R3X (fun q => q = g) (fun q => Z.heap[q]?) Y.heap.size Y ob es1 cur1 Z := hX.plain.more gg (fun q hq => by omega)
        refine hK.out _ _ (HSp.out _ hX.gX) (fun hHeld => ?_)
        clear hK K hcc gg hg1 hg2
        try simp only [Act.put, tdy]
        have hC := cx_at (P := fun q => q = g) (g := g) rfl hBy HLen.out (by omega) (by omega) HBd.out
        have hpl := l7Place_any _ _ Y.heap.size Y ob es1 cur1 pn g 0 (6 + s.size) cc _ Z hX hG1.p hG1.l (by have := hG1.e; dsimp only at this; omega) hC
        rw [HPr.out] at hpl
        have HPl : Hid (Calls Tryz.prog 112 #[.pointer (some ⟨ob, 0, none⟩), .int .i64 pn, .slice (some ⟨g, 0, none⟩) (6 + s.size) cc] Z fun e w' => PlPost (fun q => q = g) (fun q => Z.heap[q]?) Y.heap.size Y ob ((es2, cur2), ro2) e w') := hpl
        clear hpl hC hX
        refine wpAnyH_ready (rs := [7]) (by kernel_rfl) (by simp) ?_
        refine AllReadyH.cons rfl (fun K hK => ?_) AllReadyH.nil
        go_simp
        go_wp2_with (go_at_call 112; refine HPl.out.mono ?_; rintro e W2 ⟨rfl, hX⟩)
        refine hK.out _ _ (HSp.out _ hX.gX) (fun hHeld => ?_)
        clear hK K HPl hBy
        try dsimp only at hX
        try simp only [Act.put, tdy]
        refine tkH (i := 8) (v := ?v37) rfl (Or.inl ⟨by kernel_rfl, ?h37⟩) hHeld ?_
        case h37 => intro u hSw; clear hSw; go_simp; try with_reducible rfl
        try simp only [Act.put, tdy]
        refine tkH (i := 9) (v := ?v38) rfl (Or.inl ⟨by kernel_rfl, ?h38⟩) hHeld ?_
        case h38 => intro u hSw; clear hSw; go_simp; try with_reducible rfl
        try simp only [Act.put, tdy]
        refine tkH (i := 10) (v := ?v39) rfl (Or.inl ⟨by kernel_rfl, ?h39⟩) hHeld ?_
        case h39 => intro u hSw; clear hSw; go_simp; try with_reducible rfl
        try simp only [Act.put, tdy]
        refine tkH (i := 11) (v := ?v40) rfl (Or.inl ⟨by kernel_rfl, ?h40⟩) hHeld ?_
        case h40 => intro u hSw; clear hSw; go_simp; try with_reducible rfl
        try simp only [Act.put, tdy]
        refine tkH (i := 12) (v := ?v41) rfl (Or.inl ⟨by kernel_rfl, ?h41⟩) hHeld ?_
        case h41 => intro u hSw; clear hSw; go_simp; try with_reducible rfl
        try simp only [Act.put, tdy]
        refine tkH (i := 13) (v := ?v42) rfl (Or.inl ⟨by kernel_rfl, ?h42⟩) hHeld ?_
        case h42 => intro u hSw; clear hSw; go_simp; try with_reducible rfl
        try simp only [Act.put, tdy]
        refine tkH (i := 14) (v := ?v43) rfl (Or.inl ⟨by kernel_rfl, ?h43⟩) hHeld ?_
        case h43 => intro u hSw; clear hSw; go_simp; try with_reducible rfl
        try simp only [Act.put, tdy]
        refine wpAnyH_done (by kernel_rfl) ?_ _
        cases ro2 with
        | none =>
          have HE : Hid _ := uz_false (hup.trans (mv_none (s := (es1, cur1)) HPr.out))
          have hbad := l7Bad_any 9 W2
          have hg3 := hX.gX
          clear hX hHeld hup hPlc
          go_wp2_with (go_at_call 57; refine hbad.mono ?_)
          rintro e w9 ⟨rfl, g9⟩
          have g5 := hg3.trans (g9.mono hg3.size)
          obtain ⟨c0, c1, c2, f0, f1, f2⟩ := HO.out _ g5
          have g6 := HG.out _ g5
          have hgs := g6.size
          clear hbad g9 hg3 g5
          go_wp2_with fail
          refine bodyPost_ret (v := .agg #[.int .i64 9, .slice none 0 0, .slice none 0 0]) (by simp [results, Tryz.results68, go_sem, *]) rfl ?_
          rw [HE.out.1]
          exact AePost.nil HE.out.2.1 HE.out.2.2 (by go_grown)
        | some x =>
          obtain ⟨hx1, hx2⟩ := hPlc x rfl
          obtain ⟨zs2, hz2, hh2⟩ := hK2 pn sn zs hZ.c.at' hZ.c.hasS
          have hmv := hup.trans (mv_some (s := (es1, cur1)) (sn := sn) (hs := sn) HPr.out hz2)
          rw [if_pos ⟨rfl, rfl⟩] at hmv
          have HMv : Hid _ := hmv
          clear hup hPlc hmv hHeld
          go_upto_region 13 with (fail)
          have gD : Below W2.heap.size W2 W2.drew := (Below.refl _ W2).drew
          refine wp_region_held_drew (S := SpF b pn sn z.c.f z.c.p z.c.l z.c.t z.c.k z.c.v z.c.s) (by kernel_rfl) (HSp.out _ (hX.below' gD).gX) (fun hHeld => ?_)
          have hX := (hX.below' gD).now'
          generalize W2.drew = D0 at hHeld hX ⊢
          clear gD
          refine tkH (i := 0) (v := ?v44) rfl (Or.inl ⟨by kernel_rfl, ?h44⟩) hHeld ?_
          case h44 => intro u hSw; clear hSw; go_simp; try with_reducible rfl
          try simp only [Act.put, tdy]
          refine tkH (i := 1) (v := ?v45) rfl (Or.inl ⟨by kernel_rfl, ?h45⟩) hHeld ?_
          case h45 => intro u hSw; (obtain ⟨r0, r1, r3, r4, r5, r6, r7, r8, r9⟩ := hSw); go_simp; try with_reducible rfl
          try simp only [Act.put, tdy]
          refine tkH (i := 2) (v := ?v46) rfl (Or.inl ⟨by kernel_rfl, ?h46⟩) hHeld ?_
          case h46 => intro u hSw; (obtain ⟨r0, r1, r3, r4, r5, r6, r7, r8, r9⟩ := hSw); go_simp; try with_reducible rfl
          try simp only [Act.put, tdy]
          refine tkH (i := 3) (v := ?v47) rfl (Or.inl ⟨by kernel_rfl, ?h47⟩) hHeld ?_
          case h47 => intro u hSw; (obtain ⟨r0, r1, r3, r4, r5, r6, r7, r8, r9⟩ := hSw); go_simp; try with_reducible rfl
          try simp only [Act.put, tdy]
          refine tkH (i := 4) (v := ?v48) rfl (Or.inl ⟨by kernel_rfl, ?h48⟩) hHeld ?_
          case h48 => intro u hSw; (obtain ⟨r0, r1, r3, r4, r5, r6, r7, r8, r9⟩ := hSw); go_simp; try with_reducible rfl
          try simp only [Act.put, tdy]
          refine tkH (i := 5) (v := ?v49) rfl (Or.inl ⟨by kernel_rfl, ?h49⟩) hHeld ?_
          case h49 => intro u hSw; (obtain ⟨r0, r1, r3, r4, r5, r6, r7, r8, r9⟩ := hSw); go_simp; try with_reducible rfl
          try simp only [Act.put, tdy]
          refine tkH (i := 6) (v := ?v50) rfl (Or.inl ⟨by kernel_rfl, ?h50⟩) hHeld ?_
          case h50 => intro u hSw; (obtain ⟨r0, r1, r3, r4, r5, r6, r7, r8, r9⟩ := hSw); go_simp; try with_reducible rfl
          try simp only [Act.put, tdy]
          refine tkH (i := 7) (v := ?v51) rfl (Or.inl ⟨by kernel_rfl, ?h51⟩) hHeld ?_
          case h51 => intro u hSw; (obtain ⟨r0, r1, r3, r4, r5, r6, r7, r8, r9⟩ := hSw); go_simp; try with_reducible rfl
          try simp only [Act.put, tdy]
          refine tkH (i := 8) (v := ?v52) rfl (Or.inl ⟨by kernel_rfl, ?h52⟩) hHeld ?_
          case h52 => intro u hSw; (obtain ⟨r0, r1, r3, r4, r5, r6, r7, r8, r9⟩ := hSw); go_simp; try with_reducible rfl
          try simp only [Act.put, tdy]
          refine tkH (i := 9) (v := ?v53) rfl (Or.inl ⟨by kernel_rfl, ?h53⟩) hHeld ?_
          case h53 => intro u hSw; clear hSw; go_simp; try with_reducible rfl
          try simp only [Act.put, tdy]
          refine tkH (i := 10) (v := ?v54) rfl (Or.inl ⟨by kernel_rfl, ?h54⟩) hHeld ?_
          case h54 => intro u hSw; clear hSw; go_simp; try with_reducible rfl
          try simp only [Act.put, tdy]
          have hps := l1Stub_any x.1 x.2 D0 hx1 hx2
          refine wpAnyH_ready (rs := [11]) (by kernel_rfl) (by simp) ?_
          refine AllReadyH.cons rfl (fun K hK => ?_) AllReadyH.nil
          go_simp
          go_wp2_with (go_at_call 128; refine hps.mono ?_; rintro e Z ⟨rfl, gg, hBy⟩)
          obtain ⟨hg1, hg2⟩ := hBy.at' (by simp)
          have hX := hX.ext gg hg1 hg2
          refine hK.out _ _ (HSp.out _ hX.gX) (fun hHeld => ?_)
          clear hK K hps gg hg1 hg2
          generalize D0.heap.size = g2 at hX hBy ⊢
          try simp only [Act.put, tdy]
          have hC2 := cx_at (P := fun q => q = g ∨ q = g2) (cs := stbC x) (n := 3) (.inr rfl) hBy (stub_ok hx1 hx2).1 (by omega) (by omega) (stub_ok hx1 hx2).2
          obtain ⟨x1', k1', V1', x2', k2', V2', hx5⟩ := hX
          have htc := l7Set_any _ _ Y.heap.size Y ob es2 cur2 x1' k1' V1' x2' k2' V2' pn sn g2 0 3 3 zs2 (stbC x) Z hx5 hG2.p hG2.l (by have := hG2.e; dsimp only at this; omega) hz2 hh2 hC2
          obtain ⟨R3s, hR3s⟩ : ∃ R, stS (es2, cur2) pn sn zs2 (stbC x) = R := ⟨_, rfl⟩
          rw [hR3s] at htc
          have HTc : Hid (Calls Tryz.prog 127 #[.pointer (some ⟨ob, 0, none⟩), .int .i64 pn, .int .i64 sn, .slice (some ⟨g2, 0, none⟩) 3 3] Z fun e w' => TsPost (fun q => q = g ∨ q = g2) (fun q => Z.heap[q]?) Y.heap.size Y ob R3s e w') := htc
          have HR3 : Hid (stS (es2, cur2) pn sn zs2 (stbC x) = R3s) := hR3s
          clear htc hC2 hR3s hx5
          refine wpAnyH_ready (rs := [12]) (by kernel_rfl) (by simp) ?_
          refine AllReadyH.cons rfl (fun K hK => ?_) AllReadyH.nil
          go_simp
          go_wp2_with (go_at_call 127; refine HTc.out.mono ?_; rintro e W ⟨rfl, hX3⟩)
          refine hK.out _ _ (HSp.out _ hX3.gX) (fun hHeld => ?_)
          clear hK K HTc hBy
          try simp only [Act.put, tdy]
          refine wpAnyH_done (by kernel_rfl) ?_ _
          have hpn12 : pn < 12 := by have h1 := (List.getElem?_eq_some_iff.1 hz2).1; have h2 := hG2.l; dsimp only at h2; omega
          have hG3 : GdS R3s.1 99 := by rw [← HR3.out]; exact (hG2.st hpn12 (hG2.p.at hz2) hh2 (stub_ok hx1 hx2).2 (by rw [(stub_ok hx1 hx2).1]; omega)).mono (by omega)
          have hK3 : Keep (es2, cur2) R3s.1 := by rw [← HR3.out]; exact Keep.st (s := (es2, cur2)) (hG2.p.at hz2) hz2 hh2 (by rw [(stub_ok hx1 hx2).1]; omega)
          obtain ⟨⟨es3, cur3⟩, bo3⟩ := R3s
          try dsimp only at hX3
          have hre : uzR ps z t k v s = ((es3, cur3), true) := by rw [HMv.out, HR3.out]
          have HE : Hid _ := uz_true hre
          obtain ⟨x1, k1', V1, x2, k2', V2, hX4⟩ := hX3
          have hS := hX4.toHpS
          clear hX4 hHeld hK3 hre
          have hc1 := l7Done_any ob x1 x2 es3.length k1' cur3.length k2' W hS.o
          have HS9 : Hid _ := hS
          clear hS
          go_wp2_with (go_at_call 114; refine hc1.mono ?_)
          rintro e w9 ⟨rfl, g9⟩
          have hS := HS9.out.below g9
          have hg := HG.out _ hS.g
          have hgs := hg.size
          have HA : Hid _ := hS.out (rb := w.heap.size) hwY (Nat.le_of_lt hwY)
          obtain ⟨c0, c1, c2, f0, f1, f2⟩ := HO.out _ hS.g
          clear hS HS9 hc1 g9
          go_wp2_with fail
          refine bodyPost_ret (v := .agg #[.int .i64 0, .slice x1 es3.length k1', .slice x2 cur3.length k2']) (by simp [results, Tryz.results68, go_sem, *]) rfl ?_
          exact AePost.mk0 HE.out.1 HE.out.2.1 HE.out.2.2 (by go_grown) HA.out
    · obtain ⟨e1, e2, hne⟩ := hf1 hff
      have hfl : flgU pn sn hq hs' = 2 := by unfold flgU; rw [if_neg hne]
      rw [hfl] at HUz2
      have df : (z.c.f == 1) = true := by rw [hff]; rfl
      have hmv := l7Move_any Y.heap.size Y ob [] ps b rb ro pn sn hq hs' t k v z.c.t z.c.k z.c.v s z.c.s zs ys D1 ⟨_, _, _, _, _, _, hS⟩ hG hZ.c.at' hZ.c.hasS HCy.out.at' HCy.out.hasS hne hf (fun V hV => by have h1 := HSp.out V hV; rw [hff, e1, e2] at h1; exact h1) HRw.out
      obtain ⟨⟨⟨es_, cur_⟩, bo⟩, hr⟩ : ∃ r, upS ([], ps) pn sn hq hs' (cellBytes 2 t k v s) (cellBytes 2 t k v s) = r := ⟨_, rfl⟩
      rw [hr] at hmv HUz2
      have HMv : Hid (Calls Tryz.prog 126 #[.pointer (some ⟨ob, 0, none⟩), .pointer (some ⟨b, 0, none⟩), .pointer (some ⟨rb, ro, none⟩)] D1 fun e w' => UpPost Y.heap.size Y ob ((es_, cur_), bo) e w') := hmv
      clear hmv hr hS hfl hf0 hf1
      cases bo with
      | true =>
        have HE : Hid _ := uz_true HUz2.out
        go_wp2_with fail
        refine HMv.out.mono ?_
        rintro e w3 ⟨rfl, x1, k1', V1, x2, k2', V2, hS⟩
        clear HMv r0 r1 r3 r4 r5 r6 r7 r8 r9 df
        have hc1 := l7Done_any ob x1 x2 es_.length k1' cur_.length k2' w3 hS.o
        have HS9 : Hid _ := hS
        clear hS
        go_wp2_with (go_at_call 114; refine hc1.mono ?_)
        rintro e w9 ⟨rfl, g9⟩
        have hS := HS9.out.below g9
        have hg := HG.out _ hS.g
        have hgs := hg.size
        have HA : Hid _ := hS.out (rb := w.heap.size) hwY (Nat.le_of_lt hwY)
        obtain ⟨c0, c1, c2, f0, f1, f2⟩ := HO.out _ hS.g
        clear hS HS9 hc1 g9
        go_wp2_with fail
        refine bodyPost_ret (v := .agg #[.int .i64 0, .slice x1 es_.length k1', .slice x2 cur_.length k2']) (by simp [results, Tryz.results68, go_sem, *]) rfl ?_
        exact AePost.mk0 HE.out.1 HE.out.2.1 HE.out.2.2 (by go_grown) HA.out
      | false =>
        have HE : Hid _ := uz_false HUz2.out
        go_wp2_with fail
        refine HMv.out.mono ?_
        rintro e w3 ⟨rfl, x1, k1', V1, x2, k2', V2, hS⟩
        clear HMv r0 r1 r3 r4 r5 r6 r7 r8 r9 df
        have hbad := l7Bad_any 9 w3
        have hg3 := hS.g
        clear hS
        go_wp2_with (go_at_call 57; refine hbad.mono ?_)
        rintro e w9 ⟨rfl, g9⟩
        have g5 := hg3.trans (g9.mono hg3.size)
        obtain ⟨c0, c1, c2, f0, f1, f2⟩ := HO.out _ g5
        have g6 := HG.out _ g5
        have hgs := g6.size
        clear hbad g9 hg3 g5
        go_wp2_with fail
        refine bodyPost_ret (v := .agg #[.int .i64 9, .slice none 0 0, .slice none 0 0]) (by simp [results, Tryz.results68, go_sem, *]) rfl ?_
        rw [HE.out.1]
        exact AePost.nil HE.out.2.1 HE.out.2.2 (by go_grown)

end Go.Proofs.YtnfolgoloaeanaaGreat

