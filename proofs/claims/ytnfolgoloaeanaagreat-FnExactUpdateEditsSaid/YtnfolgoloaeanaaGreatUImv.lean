/-
  The program's moveRow.
-/
import Derived.Test.YtnfolgoloaeanaaGreatUIpl

namespace Go.Proofs.YtnfolgoloaeanaaGreat
open Go.RowKit
set_option linter.unusedVariables false
set_option maxRecDepth 20000

theorem B2.of_block {w w' : World} {b : Nat} {x y : Value} (h : B2 w b x y) (e : w'.heap[b]? = w.heap[b]?) : B2 w' b x y :=
  ⟨(World.cell?_of_block (a := ⟨b, 0, none⟩) e).trans h.1, (World.cell?_of_block (a := ⟨b, 1, none⟩) e).trans h.2, (World.frozen?_of_block (a := ⟨b, 0, none⟩) e).trans h.3, (World.frozen?_of_block (a := ⟨b, 1, none⟩) e).trans h.4⟩
structure MvT (ab mb rb tb pn sn hp hs : Nat) (t k v : Int) (s : ByteArray) (y1 y2 : Nat) (V : World) : Prop where
  c : MvC ab mb rb pn sn hp hs t k v s V
  z0 : V.cell? ⟨tb, 0, none⟩ = some (.int .i64 y1)
  z1 : V.cell? ⟨tb, 1, none⟩ = some (.int .i64 y2)
section
variable {ab mb rb tb pn sn hp hs : Nat} {t k v : Int} {s : ByteArray} {y1 y2 : Nat} {V V' : World}
theorem MvT.keep (h : MvT ab mb rb tb pn sn hp hs t k v s y1 y2 V) (ha : V'.heap[ab]? = V.heap[ab]?) (hm : V'.heap[mb]? = V.heap[mb]?) (hr : V'.heap[rb]? = V.heap[rb]?) (ht : V'.heap[tb]? = V.heap[tb]?) : MvT ab mb rb tb pn sn hp hs t k v s y1 y2 V' :=
  ⟨h.c.keep ha hm hr, (World.cell?_of_block (a := ⟨tb, 0, none⟩) ht).trans h.z0, (World.cell?_of_block (a := ⟨tb, 1, none⟩) ht).trans h.z1⟩
theorem MvT.up (h : MvT ab mb rb tb pn sn hp hs t k v s y1 y2 V) (hb : Below V.heap.size V V') : MvT ab mb rb tb pn sn hp hs t k v s y1 y2 V' := by
  obtain ⟨h1, h2, h3⟩ := h.c.lts
  exact h.keep (hb.block _ h1) (hb.block _ h2) (hb.block _ h3) (hb.block _ (World.block_lt_of_cell? V _ h.z0))
end

set_option maxHeartbeats 8000000 in
theorem moveRow_any (sb : Nat → Prop) (B : Nat → Option Obj) (n₀ : Nat) (X : World) (ob : Nat) (es : List (Int × List Int)) (cur : List (List Int)) (pn sn hp hs : Nat) (t k v : Int) (s : ByteArray) (zs ys : List Int) (w : World) (hS : R3X sb B n₀ X ob es cur w) (hG : GdS (es, cur) 50) (hz : cur[pn]? = some zs) (hzs : HasS zs sn) (hy : cur[hp]? = some ys) (hys : HasS ys hs) (hf : faultI t k v s = 0) (hn0 : n₀ ≤ w.heap.size) :
    Calls Tryz.prog 125 #[.pointer (some ⟨ob, 0, none⟩), .agg #[.int .i64 pn, .int .i64 sn], .agg #[.int .i64 hp, .int .i64 hs], .agg #[.int .i64 t, .int .i64 k, .int .i64 v, .string s]] w fun e w' => UpPost n₀ X ob (mwS (es, cur) pn sn hp hs (cellBytes 2 t k v s)) e w' ∧ ∀ q, sb q → w'.heap[q]? = B q := by
  obtain ⟨⟨t0, t1⟩, ⟨k0, k1⟩, ⟨v0, v1⟩, hs8⟩ := fault_bounds hf
  have hlen := cellB_len 2 t k v s
  have HBd : Hid (∀ z ∈ cellBytes 2 t k v s, 0 ≤ z ∧ z ≤ 255) := cellB_bd (f := 2) (by omega) (by omega) t0 t1 k0 k1 v0 v1 hs8
  have HLen : Hid ((cellBytes 2 t k v s).length = 6 + s.size) := hlen
  have h12 := hG.l
  have hel : es.length ≤ 100 := by have := hG.e; dsimp only at this; omega
  have hhp : (hp : Int) < (cur.length : Int) := by have := (List.getElem?_eq_some_iff.1 hy).1; omega
  have HOk : Hid (okP cur) := hG.p
  have fp1 : ∀ (q : Int) (p : Option Addr) (n c : Nat) (W : World), (Instr.field 183 (.agg #[.int .i64 q, .slice p n c]) 1).run Tryz.prog W = .ok (.slice p n c) W := fun _ _ _ _ _ => by kernel_rfl
  obtain ⟨⟨⟨es2, cur2⟩, ro⟩, hpl⟩ : ∃ r, plS hp (cellBytes 2 t k v s) cur.length 0 (es, cur) = r := ⟨_, rfl⟩
  have HPl : Hid (plS hp (cellBytes 2 t k v s) cur.length 0 (es, cur) = ((es2, cur2), ro)) := hpl
  have hG2 : GdS (es2, cur2) 75 := by
    have h1 := GdS.pl hp HBd.out (by omega) (by omega) cur.length 0 (es, cur) 50 hG (by simp)
    rw [hpl] at h1
    exact h1.mono (by dsimp only at h12; omega)
  have hK2 : Keep (es, cur) (es2, cur2) := by
    have h1 := Keep.pl hp cur.length 0 (es, cur) hG.p HBd.out (by omega) (by simp)
    rw [hpl] at h1
    exact h1
  have hPlc : ∀ y, ro = some y → y.1 ≤ 11 ∧ y.2 ≤ 15 := fun y hy' => pl_place hp HBd.out (by omega) cur.length 0 (es, cur) hG.p hG.l (by simp) y (by rw [hpl]; exact hy')
  obtain ⟨zs2, hz2, hh2⟩ := hK2 pn sn zs hz hzs
  obtain ⟨y1, hy1⟩ : ∃ y1, (ro.map (·.1)).getD 0 = y1 := ⟨_, rfl⟩
  obtain ⟨y2, hy2⟩ : ∃ y2, (ro.map (·.2)).getD 0 = y2 := ⟨_, rfl⟩
  have HY1 : Hid ((ro.map (·.1)).getD 0 = y1) := hy1
  have HY2 : Hid ((ro.map (·.2)).getD 0 = y2) := hy2
  clear hpl hlen hy1 hy2
  go_enter Tryz.func125, Tryz.ntmps125
  go_upto_region 1 with (fail)
  generalize hY : World.alloc _ _ = Y
  have gY : Below w.heap.size w Y := by rw [← hY]; go_grown
  have hYs : Y.heap.size = w.heap.size + 3 := by rw [← hY]; simp
  have hM : MvC w.heap.size (w.heap.size + 1) (w.heap.size + 2) pn sn hp hs t k v s Y := by rw [← hY]; exact ⟨by simp [go_sem], by simp [go_sem], by simp [go_sem], by simp [go_sem], by simp [go_sem], by simp [go_sem], by simp [go_sem], by simp [go_sem]⟩
  have hX : R3X (fun q => sb q ∨ q = w.heap.size ∨ q = w.heap.size + 1 ∨ q = w.heap.size + 2) (fun q => Y.heap[q]?) n₀ X ob es cur Y := hS.exts gY (fun q hq => by rcases hq with h | h | h | h; exact .inl h; exact .inr (by omega); exact .inr (by omega); exact .inr (by omega))
  have hsb : ∀ q, sb q → Y.heap[q]? = B q := fun q hq => (gY.block q (hS.lts q hq)).trans (hS.blk q hq)
  clear hY
  obtain ⟨mb, hmb⟩ : ∃ mb, w.heap.size + 1 = mb := ⟨_, rfl⟩
  obtain ⟨rb, hrb⟩ : ∃ rb, w.heap.size + 2 = rb := ⟨_, rfl⟩
  obtain ⟨ab, hab⟩ : ∃ ab, w.heap.size = ab := ⟨_, rfl⟩
  rw [hmb, hrb] at hM hX
  simp only [hmb, show mb + 1 = rb by omega]
  rw [hab] at hM hX
  simp only [hab]
  have ha0 : n₀ ≤ ab := by omega
  have hab1 : ab < mb := by omega
  have hmb1 : mb < rb := by omega
  clear hmb hrb hYs hab
  go_cut [9, 10] from 11 (fun s9 s10 wc => ∃ tb : Nat, s9 = .pointer (some ⟨tb, 0, none⟩) ∧ s10 = .bool ro.isSome ∧ MvC ab mb rb pn sn hp hs t k v s wc ∧ wc.cell? ⟨tb, 0, none⟩ = some (.int .i64 y1) ∧ wc.cell? ⟨tb, 1, none⟩ = some (.int .i64 y2) ∧ R3X (fun q => sb q ∨ q = ab ∨ q = mb ∨ q = rb ∨ q = tb) (fun q => wc.heap[q]?) n₀ X ob es2 cur2 wc ∧ (∀ q, sb q → wc.heap[q]? = B q) ∧ ab ≠ tb ∧ mb ≠ tb ∧ rb ≠ tb ∧ n₀ ≤ tb)
  case first =>
    have gD : Below Y.heap.size Y Y.drew := (Below.refl _ Y).drew
    refine wp_region_held_drew (S := MvC ab mb rb pn sn hp hs t k v s) (by kernel_rfl) (hM.up gD) (fun hHeld => ?_)
    have hsb : ∀ q, sb q → Y.drew.heap[q]? = B q := fun q h => (gD.block q (hX.lts q (.inl h))).trans (hsb q h)
    have hX := (hX.below' gD).now'
    generalize Y.drew = D0 at hHeld hX hsb ⊢
    clear hM gD
    refine tkH (i := 0) (v := ?v1) rfl (Or.inl ⟨by kernel_rfl, ?h1⟩) hHeld ?_
    case h1 => intro u hSw; clear hSw; go_simp; try with_reducible rfl
    try simp only [Act.put, tdy]
    refine tkH (i := 1) (v := ?v2) rfl (Or.inl ⟨by kernel_rfl, ?h2⟩) hHeld ?_
    case h2 => intro u hSw; (obtain ⟨y0, y1, y2, y3, y4, y5, y6, y7⟩ := hSw); go_simp; try with_reducible rfl
    try simp only [Act.put, tdy]
    refine tkH (i := 3) (v := ?v3) rfl (Or.inl ⟨by kernel_rfl, ?h3⟩) hHeld ?_
    case h3 => intro u hSw; clear hSw; go_simp; try with_reducible rfl
    try simp only [Act.put, tdy]
    refine tkH (i := 4) (v := ?v4) rfl (Or.inl ⟨by kernel_rfl, ?h4⟩) hHeld ?_
    case h4 => intro u hSw; (obtain ⟨y0, y1, y2, y3, y4, y5, y6, y7⟩ := hSw); go_simp; try with_reducible rfl
    try simp only [Act.put, tdy]
    refine wpAnyH_ready (rs := [2, 9]) (by kernel_rfl) (by simp) ?_
    refine AllReadyH.cons rfl (fun K hK => ?_) (AllReadyH.cons rfl (fun K hK => ?_) AllReadyH.nil)
    · have hcc := rowCell_any 2 t k v s D0 (by omega) (by omega) t0 t1 k0 k1 v0 v1 hs8
      go_simp
      go_wp2_with (go_at_call 54; refine hcc.mono ?_; rintro e U1 ⟨g, cc, rfl, gg, hBy⟩)
      obtain ⟨hg1, hg2⟩ := hBy.at' (by rw [HLen.out]; omega)
      have hsb : ∀ q, sb q → U1.heap[q]? = B q := fun q h => (gg.block q (hX.lts q (.inl h))).trans (hsb q h)
      have hX := hX.ext gg hg1 hg2
      refine hK.out _ _ (hHeld.up gg) (fun hHeld => ?_)
      clear hK K hcc
      clear gg hg1 hg2
      try simp only [Act.put, tdy]
      refine wpAnyH_ready (rs := [5, 9]) (by kernel_rfl) (by simp) ?_
      refine AllReadyH.cons rfl (fun K hK => ?_) (AllReadyH.cons rfl (fun K hK => ?_) AllReadyH.nil)
      · have hC := cx_at (P := fun q => (fun q => sb q ∨ q = ab ∨ q = mb ∨ q = rb) q ∨ q = g) (g := g) (.inr rfl) hBy HLen.out (by omega) (by omega) HBd.out
        have hpl := placeCell_any (fun q => (fun q => sb q ∨ q = ab ∨ q = mb ∨ q = rb) q ∨ q = g) _ n₀ X ob es cur hp g 0 (6 + s.size) cc _ U1 hX HOk.out h12 hel hC hhp
        rw [HPl.out] at hpl
        have HPc : Hid (Calls Tryz.prog 53 #[.pointer (some ⟨ob, 0, none⟩), .slice (some ⟨g, 0, none⟩) (6 + s.size) cc, .int .i64 hp] U1 fun e w' => PcPost (fun q => (fun q => sb q ∨ q = ab ∨ q = mb ∨ q = rb) q ∨ q = g) (fun q => U1.heap[q]?) n₀ X ob ((es2, cur2), ro) e w') := hpl
        clear hpl hC
        go_simp
        go_wp2_with (go_at_call 53; refine HPc.out.mono ?_; rintro e U2 ⟨rfl, hX2⟩)
        have hk2 := hX2.blk
        have hsb : ∀ q, sb q → U2.heap[q]? = B q := fun q h => (hk2 q (.inl (.inl h))).trans (hsb q h)
        have hX := hX2.now'
        try dsimp only at hX
        refine hK.out _ _ (hHeld.keep (hk2 ab (.inl (.inr (.inl rfl)))) (hk2 mb (.inl (.inr (.inr (.inl rfl))))) (hk2 rb (.inl (.inr (.inr (.inr rfl)))))) (fun hHeld => ?_)
        clear hK K HPc hX2
        clear hk2 hBy
        rw [HY1.out, HY2.out]
        try simp only [Act.put, tdy]
        refine tkH (i := 6) (v := ?v5) rfl (Or.inl ⟨by kernel_rfl, ?h5⟩) hHeld ?_
        case h5 => intro u hSw; clear hSw; go_simp; try with_reducible rfl
        try simp only [Act.put, tdy]
        refine tkH (i := 7) (v := ?v6) rfl (Or.inl ⟨by kernel_rfl, ?h6⟩) hHeld ?_
        case h6 => intro u hSw; clear hSw; go_simp; try with_reducible rfl
        try simp only [Act.put, tdy]
        refine tkH (i := 8) (v := ?v7) rfl (Or.inl ⟨by kernel_rfl, ?h7⟩) hHeld ?_
        case h7 => intro u hSw; clear hSw; go_simp; try with_reducible rfl
        try simp only [Act.put, tdy]
        refine wpAnyH_ready (rs := [9]) (by kernel_rfl) (by simp) ?_
        refine AllReadyH.cons rfl (fun K hK => ?_) AllReadyH.nil
        have gg : Below U2.heap.size U2 (U2.alloc (.cells #[.int .i64 0, .int .i64 0] 84)) := by go_grown
        have hB : B2 (U2.alloc (.cells #[.int .i64 0, .int .i64 0] 84)) U2.heap.size (.int .i64 0) (.int .i64 0) := B2.new _ _ _ _
        obtain ⟨l1, l2, l3⟩ := hHeld.lts
        have n1 : ab ≠ U2.heap.size := by omega
        have n2 : mb ≠ U2.heap.size := by omega
        have n3 : rb ≠ U2.heap.size := by omega
        have hnt : n₀ ≤ U2.heap.size := by omega
        have hst : ∀ q, sb q → q ≠ U2.heap.size := fun q h => Nat.ne_of_lt (hX.lts q (.inl (.inl h)))
        have hsb : ∀ q, sb q → (U2.alloc (.cells #[.int .i64 0, .int .i64 0] 84)).heap[q]? = B q := fun q h => (gg.block q (hX.lts q (.inl (.inl h)))).trans (hsb q h)
        have hX := hX.ext gg (Nat.le_refl _) (World.block_lt_of_cell? _ _ hB.1)
        go_simp
        refine hK.out _ _ (hHeld.up gg) (fun hHeld => ?_)
        clear hK K l1 l2 l3
        clear gg
        generalize U2.alloc (.cells #[.int .i64 0, .int .i64 0] 84) = U3 at hB hHeld hX hsb ⊢
        generalize U2.heap.size = tb at hB hX n1 n2 n3 hnt hst ⊢
        try simp only [Act.put, tdy]
        refine wpAnyH_ready (rs := [10]) (by kernel_rfl) (by simp) ?_
        refine AllReadyH.cons rfl (fun K hK => ?_) AllReadyH.nil
        obtain ⟨t0, t1, tf0, tf1⟩ := hB
        go_simp
        refine hK.out _ _ ((hHeld.put n1 n2 n3 0 _).put n1 n2 n3 1 _) (fun hHeld => ?_)
        clear hK K
        try simp only [Act.put, tdy]
        refine tkH (i := 11) (v := ?v8) rfl (Or.inl ⟨by kernel_rfl, ?h8⟩) hHeld ?_
        case h8 => intro u hSw; clear hSw; go_simp; try with_reducible rfl
        try simp only [Act.put, tdy]
        refine wpAnyH_done (by kernel_rfl) ?_ _
        have c0 : ((U3.setCell ⟨tb, 0, none⟩ (.int .i64 y1)).setCell ⟨tb, 1, none⟩ (.int .i64 y2)).cell? ⟨tb, 0, none⟩ = some (.int .i64 y1) := by simp [go_sem, t0]
        have c1 : ((U3.setCell ⟨tb, 0, none⟩ (.int .i64 y1)).setCell ⟨tb, 1, none⟩ (.int .i64 y2)).cell? ⟨tb, 1, none⟩ = some (.int .i64 y2) := by simp [go_sem, t1]
        have hX := ((hX.put 0 (.inr rfl) hnt (.int .i64 y1)).put 1 (.inr rfl) hnt (.int .i64 y2)).less' (P' := fun q => sb q ∨ q = ab ∨ q = mb ∨ q = rb ∨ q = tb) (fun q hq => by
          rcases hq with h | h | h | h | h
          · exact (.inl (.inl (.inl h)))
          · exact (.inl (.inl (.inr (.inl h))))
          · exact (.inl (.inl (.inr (.inr (.inl h)))))
          · exact (.inl (.inl (.inr (.inr (.inr h)))))
          · exact (.inr h))
        have hsb : ∀ q, sb q → ((U3.setCell ⟨tb, 0, none⟩ (.int .i64 y1)).setCell ⟨tb, 1, none⟩ (.int .i64 y2)).heap[q]? = B q := fun q h => by
          rw [Below.heap_setCell _ _ _ _ (by simpa using hst q h), Below.heap_setCell _ _ _ _ (by simpa using hst q h)]
          exact hsb q h
        go_wp2_with fail
        go_meet
        case rel => exact ⟨tb, rfl, rfl, hHeld, c0, c1, hX, hsb, n1, n2, n3, hnt⟩
      · have gg : Below U1.heap.size U1 (U1.alloc (.cells #[.int .i64 0, .int .i64 0] 84)) := by go_grown
        have hB : B2 (U1.alloc (.cells #[.int .i64 0, .int .i64 0] 84)) U1.heap.size (.int .i64 0) (.int .i64 0) := B2.new _ _ _ _
        obtain ⟨l1, l2, l3⟩ := hHeld.lts
        have n1 : ab ≠ U1.heap.size := by omega
        have n2 : mb ≠ U1.heap.size := by omega
        have n3 : rb ≠ U1.heap.size := by omega
        have hnt : n₀ ≤ U1.heap.size := by omega
        have hst : ∀ q, sb q → q ≠ U1.heap.size := fun q h => Nat.ne_of_lt (hX.lts q (.inl (.inl h)))
        have hsb : ∀ q, sb q → (U1.alloc (.cells #[.int .i64 0, .int .i64 0] 84)).heap[q]? = B q := fun q h => (gg.block q (hX.lts q (.inl (.inl h)))).trans (hsb q h)
        have hX := hX.ext gg (Nat.le_refl _) (World.block_lt_of_cell? _ _ hB.1)
        go_simp
        refine hK.out _ _ (hHeld.up gg) (fun hHeld => ?_)
        clear hK K l1 l2 l3
        have hBy := hBy.below gg
        clear gg
        generalize U1.alloc (.cells #[.int .i64 0, .int .i64 0] 84) = U4 at hB hHeld hX hsb hBy ⊢
        generalize U1.heap.size = tb at hB hX n1 n2 n3 hnt hst ⊢
        try simp only [Act.put, tdy]
        refine wpAnyH_ready (rs := [5]) (by kernel_rfl) (by simp) ?_
        refine AllReadyH.cons rfl (fun K hK => ?_) AllReadyH.nil
        have hC := cx_at (P := fun q => (fun q => (fun q => sb q ∨ q = ab ∨ q = mb ∨ q = rb) q ∨ q = g) q ∨ q = tb) (g := g) (.inl (.inr rfl)) hBy HLen.out (by omega) (by omega) HBd.out
        have hpl := placeCell_any (fun q => (fun q => (fun q => sb q ∨ q = ab ∨ q = mb ∨ q = rb) q ∨ q = g) q ∨ q = tb) _ n₀ X ob es cur hp g 0 (6 + s.size) cc _ U4 hX HOk.out h12 hel hC hhp
        rw [HPl.out] at hpl
        have HPc : Hid (Calls Tryz.prog 53 #[.pointer (some ⟨ob, 0, none⟩), .slice (some ⟨g, 0, none⟩) (6 + s.size) cc, .int .i64 hp] U4 fun e w' => PcPost (fun q => (fun q => (fun q => sb q ∨ q = ab ∨ q = mb ∨ q = rb) q ∨ q = g) q ∨ q = tb) (fun q => U4.heap[q]?) n₀ X ob ((es2, cur2), ro) e w') := hpl
        clear hpl hC
        go_simp
        go_wp2_with (go_at_call 53; refine HPc.out.mono ?_; rintro e U5 ⟨rfl, hX2⟩)
        have hk2 := hX2.blk
        have hsb : ∀ q, sb q → U5.heap[q]? = B q := fun q h => (hk2 q (.inl (.inl (.inl h)))).trans (hsb q h)
        have hX := hX2.now'
        try dsimp only at hX
        refine hK.out _ _ (hHeld.keep (hk2 ab (.inl (.inl (.inr (.inl rfl))))) (hk2 mb (.inl (.inl (.inr (.inr (.inl rfl)))))) (hk2 rb (.inl (.inl (.inr (.inr (.inr rfl))))))) (fun hHeld => ?_)
        clear hK K HPc hX2
        have hB : B2 U5 tb (.int .i64 0) (.int .i64 0) := hB.of_block (hk2 tb (.inr rfl))
        clear hk2 hBy
        rw [HY1.out, HY2.out]
        try simp only [Act.put, tdy]
        refine tkH (i := 6) (v := ?v9) rfl (Or.inl ⟨by kernel_rfl, ?h9⟩) hHeld ?_
        case h9 => intro u hSw; clear hSw; go_simp; try with_reducible rfl
        try simp only [Act.put, tdy]
        refine tkH (i := 7) (v := ?v10) rfl (Or.inl ⟨by kernel_rfl, ?h10⟩) hHeld ?_
        case h10 => intro u hSw; clear hSw; go_simp; try with_reducible rfl
        try simp only [Act.put, tdy]
        refine tkH (i := 8) (v := ?v11) rfl (Or.inl ⟨by kernel_rfl, ?h11⟩) hHeld ?_
        case h11 => intro u hSw; clear hSw; go_simp; try with_reducible rfl
        try simp only [Act.put, tdy]
        refine wpAnyH_ready (rs := [10]) (by kernel_rfl) (by simp) ?_
        refine AllReadyH.cons rfl (fun K hK => ?_) AllReadyH.nil
        obtain ⟨t0, t1, tf0, tf1⟩ := hB
        go_simp
        refine hK.out _ _ ((hHeld.put n1 n2 n3 0 _).put n1 n2 n3 1 _) (fun hHeld => ?_)
        clear hK K
        try simp only [Act.put, tdy]
        refine tkH (i := 11) (v := ?v12) rfl (Or.inl ⟨by kernel_rfl, ?h12⟩) hHeld ?_
        case h12 => intro u hSw; clear hSw; go_simp; try with_reducible rfl
        try simp only [Act.put, tdy]
        refine wpAnyH_done (by kernel_rfl) ?_ _
        have c0 : ((U5.setCell ⟨tb, 0, none⟩ (.int .i64 y1)).setCell ⟨tb, 1, none⟩ (.int .i64 y2)).cell? ⟨tb, 0, none⟩ = some (.int .i64 y1) := by simp [go_sem, t0]
        have c1 : ((U5.setCell ⟨tb, 0, none⟩ (.int .i64 y1)).setCell ⟨tb, 1, none⟩ (.int .i64 y2)).cell? ⟨tb, 1, none⟩ = some (.int .i64 y2) := by simp [go_sem, t1]
        have hX := ((hX.put 0 (.inr rfl) hnt (.int .i64 y1)).put 1 (.inr rfl) hnt (.int .i64 y2)).less' (P' := fun q => sb q ∨ q = ab ∨ q = mb ∨ q = rb ∨ q = tb) (fun q hq => by
          rcases hq with h | h | h | h | h
          · exact (.inl (.inl (.inl h)))
          · exact (.inl (.inl (.inr (.inl h))))
          · exact (.inl (.inl (.inr (.inr (.inl h)))))
          · exact (.inl (.inl (.inr (.inr (.inr h)))))
          · exact (.inr h))
        have hsb : ∀ q, sb q → ((U5.setCell ⟨tb, 0, none⟩ (.int .i64 y1)).setCell ⟨tb, 1, none⟩ (.int .i64 y2)).heap[q]? = B q := fun q h => by
          rw [Below.heap_setCell _ _ _ _ (by simpa using hst q h), Below.heap_setCell _ _ _ _ (by simpa using hst q h)]
          exact hsb q h
        go_wp2_with fail
        go_meet
        case rel => exact ⟨tb, rfl, rfl, hHeld, c0, c1, hX, hsb, n1, n2, n3, hnt⟩
    · have gg : Below D0.heap.size D0 (D0.alloc (.cells #[.int .i64 0, .int .i64 0] 84)) := by go_grown
      have hB : B2 (D0.alloc (.cells #[.int .i64 0, .int .i64 0] 84)) D0.heap.size (.int .i64 0) (.int .i64 0) := B2.new _ _ _ _
      obtain ⟨l1, l2, l3⟩ := hHeld.lts
      have n1 : ab ≠ D0.heap.size := by omega
      have n2 : mb ≠ D0.heap.size := by omega
      have n3 : rb ≠ D0.heap.size := by omega
      have hnt : n₀ ≤ D0.heap.size := by omega
      have hst : ∀ q, sb q → q ≠ D0.heap.size := fun q h => Nat.ne_of_lt (hX.lts q (.inl h))
      have hsb : ∀ q, sb q → (D0.alloc (.cells #[.int .i64 0, .int .i64 0] 84)).heap[q]? = B q := fun q h => (gg.block q (hX.lts q (.inl h))).trans (hsb q h)
      have hX := hX.ext gg (Nat.le_refl _) (World.block_lt_of_cell? _ _ hB.1)
      go_simp
      refine hK.out _ _ (hHeld.up gg) (fun hHeld => ?_)
      clear hK K l1 l2 l3
      clear gg
      generalize D0.alloc (.cells #[.int .i64 0, .int .i64 0] 84) = U6 at hB hHeld hX hsb ⊢
      generalize D0.heap.size = tb at hB hX n1 n2 n3 hnt hst ⊢
      try simp only [Act.put, tdy]
      refine wpAnyH_ready (rs := [2]) (by kernel_rfl) (by simp) ?_
      refine AllReadyH.cons rfl (fun K hK => ?_) AllReadyH.nil
      have hcc := rowCell_any 2 t k v s U6 (by omega) (by omega) t0 t1 k0 k1 v0 v1 hs8
      go_simp
      go_wp2_with (go_at_call 54; refine hcc.mono ?_; rintro e U7 ⟨g, cc, rfl, gg, hBy⟩)
      obtain ⟨hg1, hg2⟩ := hBy.at' (by rw [HLen.out]; omega)
      have hsb : ∀ q, sb q → U7.heap[q]? = B q := fun q h => (gg.block q (hX.lts q (.inl (.inl h)))).trans (hsb q h)
      have hX := hX.ext gg hg1 hg2
      refine hK.out _ _ (hHeld.up gg) (fun hHeld => ?_)
      clear hK K hcc
      have hB := hB.below gg hB.lt
      clear gg hg1 hg2
      try simp only [Act.put, tdy]
      refine wpAnyH_ready (rs := [5]) (by kernel_rfl) (by simp) ?_
      refine AllReadyH.cons rfl (fun K hK => ?_) AllReadyH.nil
      have hC := cx_at (P := fun q => (fun q => (fun q => sb q ∨ q = ab ∨ q = mb ∨ q = rb) q ∨ q = tb) q ∨ q = g) (g := g) (.inr rfl) hBy HLen.out (by omega) (by omega) HBd.out
      have hpl := placeCell_any (fun q => (fun q => (fun q => sb q ∨ q = ab ∨ q = mb ∨ q = rb) q ∨ q = tb) q ∨ q = g) _ n₀ X ob es cur hp g 0 (6 + s.size) cc _ U7 hX HOk.out h12 hel hC hhp
      rw [HPl.out] at hpl
      have HPc : Hid (Calls Tryz.prog 53 #[.pointer (some ⟨ob, 0, none⟩), .slice (some ⟨g, 0, none⟩) (6 + s.size) cc, .int .i64 hp] U7 fun e w' => PcPost (fun q => (fun q => (fun q => sb q ∨ q = ab ∨ q = mb ∨ q = rb) q ∨ q = tb) q ∨ q = g) (fun q => U7.heap[q]?) n₀ X ob ((es2, cur2), ro) e w') := hpl
      clear hpl hC
      go_simp
      go_wp2_with (go_at_call 53; refine HPc.out.mono ?_; rintro e U8 ⟨rfl, hX2⟩)
      have hk2 := hX2.blk
      have hsb : ∀ q, sb q → U8.heap[q]? = B q := fun q h => (hk2 q (.inl (.inl (.inl h)))).trans (hsb q h)
      have hX := hX2.now'
      try dsimp only at hX
      refine hK.out _ _ (hHeld.keep (hk2 ab (.inl (.inl (.inr (.inl rfl))))) (hk2 mb (.inl (.inl (.inr (.inr (.inl rfl)))))) (hk2 rb (.inl (.inl (.inr (.inr (.inr rfl))))))) (fun hHeld => ?_)
      clear hK K HPc hX2
      have hB : B2 U8 tb (.int .i64 0) (.int .i64 0) := hB.of_block (hk2 tb (.inl (.inr rfl)))
      clear hk2 hBy
      rw [HY1.out, HY2.out]
      try simp only [Act.put, tdy]
      refine tkH (i := 6) (v := ?v13) rfl (Or.inl ⟨by kernel_rfl, ?h13⟩) hHeld ?_
      case h13 => intro u hSw; clear hSw; go_simp; try with_reducible rfl
      try simp only [Act.put, tdy]
      refine tkH (i := 7) (v := ?v14) rfl (Or.inl ⟨by kernel_rfl, ?h14⟩) hHeld ?_
      case h14 => intro u hSw; clear hSw; go_simp; try with_reducible rfl
      try simp only [Act.put, tdy]
      refine tkH (i := 8) (v := ?v15) rfl (Or.inl ⟨by kernel_rfl, ?h15⟩) hHeld ?_
      case h15 => intro u hSw; clear hSw; go_simp; try with_reducible rfl
      try simp only [Act.put, tdy]
      refine wpAnyH_ready (rs := [10]) (by kernel_rfl) (by simp) ?_
      refine AllReadyH.cons rfl (fun K hK => ?_) AllReadyH.nil
      obtain ⟨t0, t1, tf0, tf1⟩ := hB
      go_simp
      refine hK.out _ _ ((hHeld.put n1 n2 n3 0 _).put n1 n2 n3 1 _) (fun hHeld => ?_)
      clear hK K
      try simp only [Act.put, tdy]
      refine tkH (i := 11) (v := ?v16) rfl (Or.inl ⟨by kernel_rfl, ?h16⟩) hHeld ?_
      case h16 => intro u hSw; clear hSw; go_simp; try with_reducible rfl
      try simp only [Act.put, tdy]
      refine wpAnyH_done (by kernel_rfl) ?_ _
      have c0 : ((U8.setCell ⟨tb, 0, none⟩ (.int .i64 y1)).setCell ⟨tb, 1, none⟩ (.int .i64 y2)).cell? ⟨tb, 0, none⟩ = some (.int .i64 y1) := by simp [go_sem, t0]
      have c1 : ((U8.setCell ⟨tb, 0, none⟩ (.int .i64 y1)).setCell ⟨tb, 1, none⟩ (.int .i64 y2)).cell? ⟨tb, 1, none⟩ = some (.int .i64 y2) := by simp [go_sem, t1]
      have hX := ((hX.put 0 (.inl (.inr rfl)) hnt (.int .i64 y1)).put 1 (.inl (.inr rfl)) hnt (.int .i64 y2)).less' (P' := fun q => sb q ∨ q = ab ∨ q = mb ∨ q = rb ∨ q = tb) (fun q hq => by
        rcases hq with h | h | h | h | h
        · exact (.inl (.inl (.inl h)))
        · exact (.inl (.inl (.inr (.inl h))))
        · exact (.inl (.inl (.inr (.inr (.inl h)))))
        · exact (.inl (.inl (.inr (.inr (.inr h)))))
        · exact (.inl (.inr h)))
      have hsb : ∀ q, sb q → ((U8.setCell ⟨tb, 0, none⟩ (.int .i64 y1)).setCell ⟨tb, 1, none⟩ (.int .i64 y2)).heap[q]? = B q := fun q h => by
        rw [Below.heap_setCell _ _ _ _ (by simpa using hst q h), Below.heap_setCell _ _ _ _ (by simpa using hst q h)]
        exact hsb q h
      go_wp2_with fail
      go_meet
      case rel => exact ⟨tb, rfl, rfl, hHeld, c0, c1, hX, hsb, n1, n2, n3, hnt⟩
  case rest =>
    obtain ⟨tb, rfl, rfl, hM2, z0, z1, hX, hsb, n1, n2, n3, hnt⟩ := hcut
    cases ro with
    | none =>
      have HE : Hid (mwS (es, cur) pn sn hp hs (cellBytes 2 t k v s) = ((es2, cur2), false)) := mv_none (s := (es, cur)) HPl.out
      clear hM2 z0 z1
      go_wp2_with fail
      go_ret
      rw [HE.out]
      exact ⟨⟨rfl, hX.plain⟩, hsb⟩
    | some x =>
      obtain ⟨hx1, hx2⟩ := hPlc x rfl
      have e1 : x.1 = y1 := HY1.out
      have e2 : x.2 = y2 := HY2.out
      subst e1 e2
      have hT : MvT ab mb rb tb pn sn hp hs t k v s x.1 x.2 wc := ⟨hM2, z0, z1⟩
      have HE : Hid _ := mv_some (s := (es, cur)) (sn := sn) (hs := hs) HPl.out hz2
      clear z0 z1 hM2
      go_upto_region 4 with (fail)
      have gD : Below wc.heap.size wc wc.drew := (Below.refl _ wc).drew
      refine wp_region_held_drew (S := MvT ab mb rb tb pn sn hp hs t k v s x.1 x.2) (by kernel_rfl) (hT.up gD) (fun hHeld => ?_)
      have hsb : ∀ q, sb q → wc.drew.heap[q]? = B q := fun q h => (gD.block q (hX.lts q (.inl h))).trans (hsb q h)
      have hX := (hX.below' gD).now'
      generalize wc.drew = D0 at hHeld hX hsb ⊢
      clear hT gD
      refine tkH (i := 0) (v := ?v22) rfl (Or.inl ⟨by kernel_rfl, ?h22⟩) hHeld ?_
      case h22 => intro u hSw; clear hSw; go_simp; try with_reducible rfl
      try simp only [Act.put, tdy]
      refine tkH (i := 1) (v := ?v17) rfl (Or.inl ⟨by kernel_rfl, ?h17⟩) hHeld ?_
      case h17 => intro u hSw; (obtain ⟨⟨y0, y1, y2, y3, y4, y5, y6, y7⟩, z0, z1⟩ := hSw); go_simp; try with_reducible rfl
      try simp only [Act.put, tdy]
      refine tkH (i := 2) (v := ?v18) rfl (Or.inl ⟨by kernel_rfl, ?h18⟩) hHeld ?_
      case h18 => intro u hSw; (obtain ⟨⟨y0, y1, y2, y3, y4, y5, y6, y7⟩, z0, z1⟩ := hSw); go_simp; try with_reducible rfl
      try simp only [Act.put, tdy]
      refine tkH (i := 3) (v := ?v19) rfl (Or.inl ⟨by kernel_rfl, ?h19⟩) hHeld ?_
      case h19 => intro u hSw; (obtain ⟨⟨y0, y1, y2, y3, y4, y5, y6, y7⟩, z0, z1⟩ := hSw); go_simp; try with_reducible rfl
      try simp only [Act.put, tdy]
      refine tkH (i := 4) (v := ?v20) rfl (Or.inl ⟨by kernel_rfl, ?h20⟩) hHeld ?_
      case h20 => intro u hSw; (obtain ⟨⟨y0, y1, y2, y3, y4, y5, y6, y7⟩, z0, z1⟩ := hSw); go_simp; try with_reducible rfl
      try simp only [Act.put, tdy]
      refine tkH (i := 5) (v := ?v21) rfl (Or.inl ⟨by kernel_rfl, ?h21⟩) hHeld ?_
      case h21 => intro u hSw; (obtain ⟨⟨y0, y1, y2, y3, y4, y5, y6, y7⟩, z0, z1⟩ := hSw); go_simp; try with_reducible rfl
      try simp only [Act.put, tdy]
      have hps := packStub_ok x.1 x.2 D0 hx1 hx2
      refine wpAnyH_ready (rs := [6]) (by kernel_rfl) (by simp) ?_
      refine AllReadyH.cons rfl (fun K hK => ?_) AllReadyH.nil
      go_simp
      go_wp2_with (go_at_call 175; refine hps.mono ?_; rintro e Z ⟨g, cc, rfl, gg, hBy⟩)
      obtain ⟨hg1, hg2⟩ := hBy.at' (by simp)
      have hsb : ∀ q, sb q → Z.heap[q]? = B q := fun q h => (gg.block q (hX.lts q (.inl h))).trans (hsb q h)
      have hX := hX.ext gg hg1 hg2
      refine hK.out _ _ (hHeld.up gg) (fun hHeld => ?_)
      clear hK K hps gg hg1 hg2
      try simp only [Act.put, tdy]
      refine tkH (i := 7) (v := ?v23) rfl (Or.inl ⟨by kernel_rfl, ?h23⟩) hHeld ?_
      case h23 => intro u hSw; clear hSw; go_simp; try with_reducible rfl
      try simp only [Act.put, tdy]
      have hC := cx_at (P := fun q => (sb q ∨ q = ab ∨ q = mb ∨ q = rb ∨ q = tb) ∨ q = g) (cs := stbC x) (n := 3) (.inr rfl) hBy (stub_ok hx1 hx2).1 (by omega) (by omega) (stub_ok hx1 hx2).2
      have htc := turnCell_any _ _ n₀ X ob es2 cur2 pn sn g 0 3 cc zs2 (stbC x) Z hX hG2.p hG2.l (by have := hG2.e; dsimp only at this; omega) hz2 hh2 hC
      obtain ⟨R3s, hR3s⟩ : ∃ R, stS (es2, cur2) pn sn zs2 (stbC x) = R := ⟨_, rfl⟩
      rw [hR3s] at htc
      have HTc : Hid (Calls Tryz.prog 124 #[.pointer (some ⟨ob, 0, none⟩), .agg #[.int .i64 pn, .int .i64 sn], .slice (some ⟨g, 0, none⟩) 3 cc] Z fun e w' => TsPost (fun q => (sb q ∨ q = ab ∨ q = mb ∨ q = rb ∨ q = tb) ∨ q = g) (fun q => Z.heap[q]?) n₀ X ob R3s e w') := htc
      have HR3 : Hid (stS (es2, cur2) pn sn zs2 (stbC x) = R3s) := hR3s
      clear htc hC hR3s
      refine wpAnyH_ready (rs := [8]) (by kernel_rfl) (by simp) ?_
      refine AllReadyH.cons rfl (fun K hK => ?_) AllReadyH.nil
      go_simp
      go_wp2_with (go_at_call 124; refine HTc.out.mono ?_; rintro e W ⟨rfl, hX3⟩)
      have hk3 := hX3.blk
      have hsb : ∀ q, sb q → W.heap[q]? = B q := fun q h => (hk3 q (.inl (.inl h))).trans (hsb q h)
      refine hK.out _ _ (hHeld.keep (hk3 ab (.inl (.inr (.inl rfl)))) (hk3 mb (.inl (.inr (.inr (.inl rfl))))) (hk3 rb (.inl (.inr (.inr (.inr (.inl rfl)))))) (hk3 tb (.inl (.inr (.inr (.inr (.inr rfl))))))) (fun hHeld => ?_)
      clear hK K HTc hk3 hBy
      try simp only [Act.put, tdy]
      refine wpAnyH_done (by kernel_rfl) ?_ _
      obtain ⟨⟨b0, b1, b2, b3, b4, b5, b6, b7⟩, b8, b9⟩ := hHeld
      have hpn12 : pn < 12 := by have h1 := (List.getElem?_eq_some_iff.1 hz2).1; have h2 := hG2.l; dsimp only at h2; omega
      have hG3 : GdS R3s.1 77 := by rw [← HR3.out]; exact hG2.st hpn12 (hG2.p.at hz2) hh2 (stub_ok hx1 hx2).2 (by rw [(stub_ok hx1 hx2).1]; omega)
      have hK3 : Keep (es, cur) R3s.1 := by rw [← HR3.out]; exact hK2.trans (Keep.st (s := (es2, cur2)) (hG2.p.at hz2) hz2 hh2 (by rw [(stub_ok hx1 hx2).1]; omega))
      obtain ⟨ys3, hy3, hh3⟩ := hK3 hp hs ys hy hys
      obtain ⟨⟨es3, cur3⟩, bo3⟩ := R3s
      dsimp only at hX3 hy3
      have hneq : ∀ W', (binOp .neq 84 (.agg #[.int .i64 (hp : Int), .int .i64 (hs : Int)]) (.agg #[.int .i64 (pn : Int), .int .i64 (sn : Int)])).run Tryz.prog W' = .ok (.bool (!(((hp : Nat) : Int) == ((pn : Nat) : Int) && ((hs : Nat) : Int) == ((sn : Nat) : Int)))) W' := fun W' => neq_place _ _ _ _ W'
      by_cases hsame : hp = pn ∧ hs = sn
      · have hnq : (!(((hp : Nat) : Int) == ((pn : Nat) : Int) && ((hs : Nat) : Int) == ((sn : Nat) : Int))) = false := by rw [hsame.1, hsame.2]; simp
        rw [hnq] at hneq
        have HE2 : Hid (mwS (es, cur) pn sn hp hs (cellBytes 2 t k v s) = ((es3, cur3), true)) := by show _ = _; rw [HE.out, if_pos hsame, HR3.out]
        have HX3 : Hid (R3 n₀ X ob es3 cur3 W) := hX3.plain
        clear hX hX3 hsame hnq
        go_wp2_with fail
        go_ret
        rw [HE2.out]
        exact ⟨⟨rfl, HX3.out⟩, hsb⟩
      · have hnq : (!(((hp : Nat) : Int) == ((pn : Nat) : Int) && ((hs : Nat) : Int) == ((sn : Nat) : Int))) = true := by simp; omega
        rw [hnq] at hneq
        have hC3 : CelIn cur3 hp hs ys3 := ⟨hy3, hG3.p.at hy3, (hasC_iff hs).2 ⟨hh3.lt, hh3.em⟩⟩
        have HE2 : Hid (mwS (es, cur) pn sn hp hs (cellBytes 2 t k v s) = ((es3 ++ [((hp : Int), drpP ys3 hs)], cur3.set hp (drpP ys3 hs)), true)) := by show _ = _; rw [HE.out, if_neg hsame, HR3.out]; dsimp only; rw [getD_of hy3]; rfl
        obtain ⟨x1, k1, V1, x2, k2, V2, hX4⟩ := hX3
        have hS3 := hX4.toHpS
        have hnD : ∀ q, sb q → ¬ (blkP (.slice x1 es3.length k1) V1 q ∨ blkP (.slice x2 cur3.length k2) V2 q ∨ q = ob) := fun q h => by
          rintro (h1 | h1 | h1)
          · exact hX4.m1 q (.inl (.inl h)) h1
          · exact hX4.m2 q (.inl (.inl h)) h1
          · exact hX4.m3 q (.inl (.inl h)) h1
        have hDl : ∀ q, blkP (.slice x1 es3.length k1) V1 q ∨ blkP (.slice x2 cur3.length k2) V2 q ∨ q = ob → q < W.heap.size := fun q h => by
          rcases h with h | h | h
          · exact (hS3.a.e.lt h).2
          · exact (hS3.a.p.lt h).2
          · rw [h]; exact hS3.o.lt
        have hls : ∀ q, sb q → q < W.heap.size := fun q h => hX4.ls q (.inl (.inl h))
        have hdc := dropCell_any n₀ X ob es3 cur3 x1 k1 V1 x2 k2 V2 hp hs ys3 W hS3 hC3 hG3.l (by have := hG3.e; dsimp only at this; omega) (fun g => blkP (.slice x1 es3.length k1) V1 g ∨ blkP (.slice x2 cur3.length k2) V2 g ∨ g = ob) (fun g hg => .inl hg) (fun g hg => .inr (.inl hg)) (.inr (.inr rfl)) hDl
        have HDc : Hid (Calls Tryz.prog 71 #[.pointer (some ⟨ob, 0, none⟩), .agg #[.int .i64 hp, .int .i64 hs]] W fun e w' => PuPost n₀ X ob (es3 ++ [((hp : Int), drpP ys3 hs)]) (cur3.set hp (drpP ys3 hs)) x2 k2 (fun g => blkP (.slice x1 es3.length k1) V1 g ∨ blkP (.slice x2 cur3.length k2) V2 g ∨ g = ob) W e w') := hdc
        clear hX hX4 hsame hnq hS3 hdc hC3
        go_wp2_with fail
        refine HDc.out.mono ?_
        rintro e W4 ⟨rfl, ⟨x1', k1', V1', V2', hS4⟩, hT4⟩
        clear b0 b1 b2 b3 b4 b5 b6 b7 b8 b9 HDc
        go_wp2_with fail
        go_ret
        rw [HE2.out]
        exact ⟨⟨rfl, _, _, _, _, _, _, hS4⟩, fun q h => (hT4.block q (hls q h) (hnD q h)).trans (hsb q h)⟩

end Go.Proofs.YtnfolgoloaeanaaGreat

