/-
  The law FnFolds answers true.
-/
import Derived.Test.YtmbllmhpnopbdaaFFFfp
import Derived.Test.YtmbllmhpnopbdaaFFPit
import Derived.Test.YtmbllmhpnopbdaaFFDfo
import Derived.Test.YtmbllmhpnopbdaaFFLwq
import Derived.Test.YtmbllmhpnopbdaaFFFcm
import Derived.Test.YtmbllmhpnopbdaaFFIac
import Derived.Deep.RegionHeld
import Derived.Deep.CutRange
import Derived.BigQuiet

namespace Go.Proofs.Ytmbllmhpnopbdaa
open Go.ChangeShapes Go.WideShapes Go.RowKit Go.Maps
set_option linter.unusedVariables false
set_option maxRecDepth 20000

theorem SlIn.upK {lo hi B : Nat} {V W : World} {a : Option Addr} {rs : List Rw} (h : SlIn rwE 4 lo hi V a rs) (hb : Below B V W) (hB : hi ≤ B) : SlIn rwE 4 lo hi W a rs := by
  rcases h with h | ⟨b, off, e, h1, h2, hc⟩
  · exact .inl h
  · refine .inr ⟨b, off, e, h1, h2, fun i x hx j u hu => ?_⟩
    obtain ⟨q1, q2⟩ := hc i x hx j u hu
    have hl : b < B := Nat.lt_of_lt_of_le h2 hB
    exact ⟨(hb.cell (p := ⟨b, off + i * 4 + j, none⟩) hl).trans q1, (hb.frozen (p := ⟨b, off + i * 4 + j, none⟩) hl).trans q2⟩
theorem ShC.bef {cs : List Chg} (h : ShC cs) : ∀ r ∈ bfL cs, r.s.size ≤ 1048576 := fun r hr => by
  obtain ⟨c, hc, e⟩ := List.mem_filterMap.1 hr
  unfold befR at e
  split at e
  · cases e; exact Nat.le_trans (h c hc).1 (by decide)
  · cases e
theorem ShC.aft {cs : List Chg} (h : ShC cs) : ∀ r ∈ afL cs, r.s.size ≤ 1048576 := fun r hr => by
  obtain ⟨c, hc, e⟩ := List.mem_filterMap.1 hr
  unfold aftR at e
  split at e
  · cases e; exact Nat.le_trans (h c hc).2 (by decide)
  · cases e
theorem ShC.max {cs : List Chg} (h : ShC cs) : ∀ x ∈ cs, x.b.s.size ≤ maxLen ∧ x.a.s.size ≤ maxLen := fun x hx => ⟨Nat.le_trans (h x hx).1 (by decide), Nat.le_trans (h x hx).2 (by decide)⟩
theorem bf_snoc {cs : List Chg} {j : Nat} {x : Chg} (hx : cs[j]? = some x) : bfL (cs.take (j + 1)) = bfL (cs.take j) ++ (befR x).toList := by
  unfold bfL
  rw [take_snoc hx, List.filterMap_append]
  congr 1
theorem fnd_snoc {cs : List Chg} {c : Chg} {j : Nat} {x : Chg} (hx : cs[j]? = some x) : fndB (cs.take (j + 1)) c = (fndB (cs.take j) c || (x.is && rwEq x.a c.b)) := by
  unfold fndB
  rw [take_snoc hx, List.any_append]
  simp
/-- What stands at the end. -/
structure FfE (w : World) (rb kb ab db : Nat) (pa pd pl pr : Option Addr) (na ca cd nr cr : Nat) (y : Chg) (cs r : List Chg) (rs : List Rw) (V : World) : Prop where
  b0 : V.cell? ⟨ab, 0, none⟩ = some (.int .i64 0)
  b1 : V.cell? ⟨ab, 1, none⟩ = some (.slice pa na ca)
  d0 : V.cell? ⟨db, 0, none⟩ = some (.int .i64 0)
  d1 : V.cell? ⟨db, 1, none⟩ = some (.slice pd na cd)
  r1 : V.cell? ⟨rb, 1, none⟩ = some (.slice pr nr cr)
  c : ChC V kb 0 y
  rA : Rs rwE 4 V pa rs
  rD : Rs rwE 4 V pd rs
  rL : Rs chE 10 V pl cs
  rR : Rs chE 10 V pr r
  g : Below w.heap.size w V
theorem FfE.up {w : World} {rb kb ab db : Nat} {pa pd pl pr : Option Addr} {na ca cd nr cr : Nat} {y : Chg} {cs r : List Chg} {rs : List Rw} {V W : World} (h : FfE w rb kb ab db pa pd pl pr na ca cd nr cr y cs r rs V) (hb : Below V.heap.size V W) : FfE w rb kb ab db pa pd pl pr na ca cd nr cr y cs r rs W :=
  ⟨cell_up h.b0 hb, cell_up h.b1 hb, cell_up h.d0 hb, cell_up h.d1 hb, cell_up h.r1 hb, h.c.below hb h.c.lt, h.rA.below hb (Nat.le_refl _), h.rD.below hb (Nat.le_refl _), h.rL.below hb (Nat.le_refl _), h.rR.below hb (Nat.le_refl _), h.g.trans (hb.mono h.g.size)⟩
set_option maxHeartbeats 32000000 in
theorem lawFolds_any (a : Option Addr) (n c : Nat) (zs : List Int) (w : World) (hW : IsRow .u8 w a n c zs) :
    Calls Try.prog 3 #[.slice a n c] w fun e w' => e = .returned (.bool true) ∧ Below w.heap.size w w' := by
  have fr0 : ∀ (q : Int) (p : Option Addr) (n c : Nat) (W : World), (Instr.field 36 (.agg #[.int .i64 q, .slice p n c]) 0).run Try.prog W = .ok (.int .i64 q) W := fun _ _ _ _ _ => by kernel_rfl
  have fr1 : ∀ (q : Int) (p : Option Addr) (n c : Nat) (W : World), (Instr.field 36 (.agg #[.int .i64 q, .slice p n c]) 1).run Try.prog W = .ok (.slice p n c) W := fun _ _ _ _ _ => by kernel_rfl
  have fb0 : ∀ (q : Int) (p : Option Addr) (n c : Nat) (W : World), (Instr.field 32 (.agg #[.int .i64 q, .slice p n c]) 0).run Try.prog W = .ok (.int .i64 q) W := fun _ _ _ _ _ => by kernel_rfl
  have fb1 : ∀ (q : Int) (p : Option Addr) (n c : Nat) (W : World), (Instr.field 32 (.agg #[.int .i64 q, .slice p n c]) 1).run Try.prog W = .ok (.slice p n c) W := fun _ _ _ _ _ => by kernel_rfl
  obtain ⟨hl, hc, hrd, hz⟩ := isRow_reads hW
  clear hW
  generalize zs.take n = xs at hl hrd hz
  by_cases hb : 1048576 < n
  · go_enter Try.func3, Try.ntmps3
    go_wp2_with fail
    refine (lwBig_big a n c _ hb).mono ?_
    rintro e w' ⟨rfl, rfl⟩
    go_wp2_with fail
    go_ret
    exact ⟨rfl, Below.refl _ _⟩
  have HRd : Hid (∀ V, Below w.heap.size w V → Reads V a xs) := fun V hV => hrd.below hV (Nat.le_refl _)
  have HXl : Hid (xs.length = n) := hl
  have HXz : Hid (∀ z ∈ xs, 0 ≤ z ∧ z ≤ 255) := hz
  clear hrd hl hz hc
  go_enter Try.func3, Try.ntmps3
  go_wp2_with fail
  refine (lwBig_small a n c _ (by omega)).mono ?_
  rintro e w0 ⟨rfl, hw⟩
  have hw := hw.symm
  subst hw
  go_wp2_with fail
  refine (drawFoldChange_any a n c xs _ (HRd.out _ (Below.refl _ _)) HXl.out (by omega) HXz.out).mono ?_
  rintro e w1 ⟨pl, cl, cs, y, rfl, hl12, hsh, hyb, hya, hRl, g1⟩
  obtain ⟨nc, hnc⟩ : ∃ m, cs.length = m := ⟨_, rfl⟩
  have HNc : Hid (cs.length = nc) := hnc
  have hnc12 : nc ≤ 12 := by rw [← hnc]; exact hl12
  have HSh : Hid (ShC cs ∧ cs.length ≤ 12 ∧ y.b.s.size ≤ 9 ∧ y.a.s.size ≤ 9) := ⟨hsh, hl12, hyb, hya⟩
  have HSl : Hid (∀ x ∈ cs, x.b.s.size ≤ 1048576 ∧ x.a.s.size ≤ 1048576) := hsh.wide
  have HSm : Hid ((∀ x ∈ cs, x.b.s.size ≤ maxLen ∧ x.a.s.size ≤ maxLen) ∧ y.b.s.size ≤ maxLen ∧ y.a.s.size ≤ maxLen) := ⟨hsh.max, Nat.le_trans hyb (by decide), Nat.le_trans hya (by decide)⟩
  rw [hnc]
  simp only [chV]
  clear hnc hl12 hsh hyb hya
  go_upto_region 4 with (fail)
  generalize hY : World.alloc _ _ = Y1
  have gY : Below w1.heap.size w1 Y1 := by rw [← hY]; go_grown
  have C : ChC Y1 w1.heap.size 0 y := by rw [← hY]; exact ⟨by simp [go_sem], by simp [go_sem], by simp [go_sem], by simp [go_sem], by simp [go_sem], by simp [go_sem], by simp [go_sem], by simp [go_sem], by simp [go_sem], by simp [go_sem]⟩
  have hRl := hRl.below gY (Nat.le_refl _)
  have g := g1.trans (gY.mono g1.size)
  clear hY gY g1
  generalize w1.heap.size = kb at C ⊢
  have HK1 : Hid (∀ V, Below Y1.heap.size Y1 V → ChC V kb 0 y ∧ Rs chE 10 V pl cs ∧ Below w.heap.size w V) := fun V hV => ⟨C.below hV C.lt, hRl.below hV (Nat.le_refl _), g.trans (hV.mono g.size)⟩
  have hcon : Calls Try.prog 6 #[.slice pl nc cl, .agg #[.bool y.was, .int .i64 y.b.t, .int .i64 y.b.k, .int .i64 y.b.v, .string y.b.s, .bool y.is, .int .i64 y.a.t, .int .i64 y.a.k, .int .i64 y.a.v, .string y.a.s]] Y1 fun e w' => FcPost (fcQ cs y) (fcL cs y) Y1 e w' := implFoldChange_any pl cs nc cl y.was y.b.t y.b.k y.b.v y.b.s y.is y.a.t y.a.k y.a.v y.a.s Y1 HNc.out (by omega) HSl.out (Nat.le_trans HSh.out.2.2.1 (by decide)) (Nat.le_trans HSh.out.2.2.2 (by decide)) hRl
  obtain ⟨c0, c1, c2, c3, c4, c5, c6, c7, c8, c9⟩ := C
  clear hRl g
  obtain ⟨q, hq⟩ : ∃ q, fcQ cs y = q := ⟨_, rfl⟩
  have HQ : Hid (fcQ cs y = q) := hq
  obtain ⟨nr, hnr⟩ : ∃ m, (fcL cs y).length = m := ⟨_, rfl⟩
  have HNr : Hid ((fcL cs y).length = nr) := hnr
  go_cut [5] from 12 (fun s5 wc => ∃ rb pr cr, s5 = .pointer (some ⟨rb, 0, none⟩) ∧ Below Y1.heap.size Y1 wc ∧ wc.cell? ⟨rb, 0, none⟩ = some (.int .i64 q) ∧ wc.cell? ⟨rb, 1, none⟩ = some (.slice pr nr cr) ∧ Rs chE 10 wc pr (fcL cs y))
  case first =>
    go_wp2_with (go_at_call 6; refine hcon.mono ?_)
    rintro e w2 hfc
    obtain ⟨pr, cr, rfl, g2, hinr⟩ := hfc.form
    have hRr := hinr.reads
    have hs2 := g2.size
    rw [hq, hnr]
    clear hcon hfc hinr hq hnr c0 c1 c2 c3 c4 c5 c6 c7 c8 c9
    go_wp2_with fail
    go_meet
    case rel =>
      refine ⟨w2.heap.size, pr, cr, rfl, by go_grown, by simp [go_sem], by simp [go_sem], hRr.below (show Below w2.heap.size w2 _ by go_grown) (Nat.le_refl _)⟩
  clear hcon hq hnr c0 c1 c2 c3 c4 c5 c6 c7 c8 c9
  case rest =>
  obtain ⟨rb, pr, cr, rfl, gX, x0, x1, hRr⟩ := hcut
  obtain ⟨Y2, hY2⟩ : ∃ Y, Y = wc := ⟨_, rfl⟩
  subst hY2
  have HK2 : Hid (∀ V, Below Y2.heap.size Y2 V → ChC V kb 0 y ∧ Rs chE 10 V pl cs ∧ Rs chE 10 V pr (fcL cs y) ∧ V.cell? ⟨rb, 1, none⟩ = some (.slice pr nr cr) ∧ Below w.heap.size w V) := fun V hV =>
    have k := HK1.out V (gX.trans (hV.mono gX.size))
    ⟨k.1, k.2.1, hRr.below hV (Nat.le_refl _), cell_up x1 hV, k.2.2⟩
  clear gX hRr HK1 x1
  by_cases hq0 : q = 0
  case neg =>
    have d1 : (q == 0) = false := by simpa using hq0
    have d2 : (q != 0) = true := by simpa using hq0
    obtain ⟨hC, hRl, -, -, gw⟩ := HK2.out Y2.drew (Below.refl _ _).drew
    go_upto_region 6 with (fail)
    refine wp_region_held_drew (S := fun V => ChC V kb 0 y ∧ V.cell? ⟨rb, 0, none⟩ = some (.int .i64 q) ∧ Below w.heap.size w V ∧ Rs chE 10 V pl cs) (by kernel_rfl) ⟨hC, cell_up x0 (Below.refl _ _).drew, gw, hRl⟩ (fun hHeld => ?_)
    generalize Y2.drew = D at hHeld ⊢
    clear x0 HK2 hC hRl gw
    refine wpAnyH_take (i := 0) (v := ?v1) rfl (by kernel_rfl) (by kernel_rfl) (by kernel_rfl) (fun _ _ _ h => h) (Or.inl ⟨by kernel_rfl, ?h1⟩) hHeld ?_
    case h1 => intro u hSw; (obtain ⟨⟨c0, c1, c2, c3, c4, c5, c6, c7, c8, c9⟩, x0, -⟩ := hSw); go_simp; try with_reducible rfl
    try simp only [List.getElem_toArray]
    try simp only [List.getElem_cons_succ]
    try simp only [List.getElem_cons_zero]
    try simp only [Act.put]
    try simp only [List.setIfInBounds_toArray]
    try simp only [List.set]
    refine wpAnyH_take (i := 1) (v := ?v2) rfl (by kernel_rfl) (by kernel_rfl) (by kernel_rfl) (fun _ _ _ h => h) (Or.inl ⟨by kernel_rfl, ?h2⟩) hHeld ?_
    case h2 => intro u hSw; (obtain ⟨⟨c0, c1, c2, c3, c4, c5, c6, c7, c8, c9⟩, x0, -⟩ := hSw); go_simp; try with_reducible rfl
    try simp only [List.getElem_toArray]
    try simp only [List.getElem_cons_succ]
    try simp only [List.getElem_cons_zero]
    try simp only [Act.put]
    try simp only [List.setIfInBounds_toArray]
    try simp only [List.set]
    refine wpAnyH_take (i := 4) (v := ?v3) rfl (by kernel_rfl) (by kernel_rfl) (by kernel_rfl) (fun _ _ _ h => h) (Or.inl ⟨by kernel_rfl, ?h3⟩) hHeld ?_
    case h3 => intro u hSw; (obtain ⟨⟨c0, c1, c2, c3, c4, c5, c6, c7, c8, c9⟩, x0, -⟩ := hSw); go_simp; try with_reducible rfl
    try simp only [List.getElem_toArray]
    try simp only [List.getElem_cons_succ]
    try simp only [List.getElem_cons_zero]
    try simp only [Act.put]
    try simp only [List.setIfInBounds_toArray]
    try simp only [List.set]
    refine wpAnyH_take (i := 5) (v := ?v4) rfl (by kernel_rfl) (by kernel_rfl) (by kernel_rfl) (fun _ _ _ h => h) (Or.inl ⟨by kernel_rfl, ?h4⟩) hHeld ?_
    case h4 => intro u hSw; (obtain ⟨⟨c0, c1, c2, c3, c4, c5, c6, c7, c8, c9⟩, x0, -⟩ := hSw); go_simp; try with_reducible rfl
    try simp only [List.getElem_toArray]
    try simp only [List.getElem_cons_succ]
    try simp only [List.getElem_cons_zero]
    try simp only [Act.put]
    try simp only [List.setIfInBounds_toArray]
    try simp only [List.set]
    refine wpAnyH_ready (rs := [2]) (by kernel_rfl) (by simp) ?_
    refine AllReadyH.cons rfl (fun K hK => ?_) AllReadyH.nil
    go_simp
    go_wp2_with (go_at_call 7; refine (specFoldChange_any pl cs nc cl y.was y.b.t y.b.k y.b.v y.b.s y.is y.a.t y.a.k y.a.v y.a.s _ HNc.out (by omega) HSm.out.1 HSm.out.2.1 HSm.out.2.2 hHeld.2.2.2).mono ?_; rintro e E1 hfc2; have hfc2 : FcPost (fcQ cs y) (fcL cs y) _ _ _ := hfc2; obtain ⟨pe, ce, rfl, gb1, -⟩ := hfc2.form; rw [HQ.out])
    refine hK.out _ _ (⟨hHeld.1.below gb1 hHeld.1.lt, cell_up hHeld.2.1 gb1, hHeld.2.2.1.trans (gb1.mono hHeld.2.2.1.size), hHeld.2.2.2.below gb1 (Nat.le_refl _)⟩) (fun hHeld => ?_)
    clear hK K
    clear gb1
    try simp only [Act.put]
    try simp only [List.setIfInBounds_toArray]
    try simp only [List.set]
    refine wpAnyH_take (i := 3) (v := ?v5) rfl (by kernel_rfl) (by kernel_rfl) (by kernel_rfl) (fun _ _ _ h => h) (Or.inl ⟨by kernel_rfl, ?h5⟩) hHeld ?_
    case h5 => intro u hSw; (obtain ⟨⟨c0, c1, c2, c3, c4, c5, c6, c7, c8, c9⟩, x0, -⟩ := hSw); go_simp; try with_reducible rfl
    try simp only [List.getElem_toArray]
    try simp only [List.getElem_cons_succ]
    try simp only [List.getElem_cons_zero]
    try simp only [Act.put]
    try simp only [List.setIfInBounds_toArray]
    try simp only [List.set]
    refine wpAnyH_take (i := 6) (v := ?v6) rfl (by kernel_rfl) (by kernel_rfl) (by kernel_rfl) (fun _ _ _ h => h) (Or.inl ⟨by kernel_rfl, ?h6⟩) hHeld ?_
    case h6 => intro u hSw; (obtain ⟨⟨c0, c1, c2, c3, c4, c5, c6, c7, c8, c9⟩, x0, -⟩ := hSw); go_simp; try with_reducible rfl
    try simp only [List.getElem_toArray]
    try simp only [List.getElem_cons_succ]
    try simp only [List.getElem_cons_zero]
    try simp only [Act.put]
    try simp only [List.setIfInBounds_toArray]
    try simp only [List.set]
    refine wpAnyH_take (i := 7) (v := ?v7) rfl (by kernel_rfl) (by kernel_rfl) (by kernel_rfl) (fun _ _ _ h => h) (Or.inl ⟨by kernel_rfl, ?h7⟩) hHeld ?_
    case h7 => intro u hSw; (obtain ⟨⟨c0, c1, c2, c3, c4, c5, c6, c7, c8, c9⟩, x0, -⟩ := hSw); go_simp; try with_reducible rfl
    try simp only [List.getElem_toArray]
    try simp only [List.getElem_cons_succ]
    try simp only [List.getElem_cons_zero]
    try simp only [Act.put]
    try simp only [List.setIfInBounds_toArray]
    try simp only [List.set]
    refine wpAnyH_done (by kernel_rfl) ?_ _
    go_wp2_with fail
    go_ret
    exact ⟨rfl, hHeld.2.2.1⟩
  case pos =>
    subst hq0
    have HFl : Hid (Fld cs y (fcL cs y)) := Fld.of HSh.out.2.1 HQ.out
    have hnr13 : nr ≤ 13 := by rw [← HNr.out]; exact HFl.out.few
    have HSr : Hid (∀ x ∈ fcL cs y, x.b.s.size ≤ 1048576 ∧ x.a.s.size ≤ 1048576) := (HFl.out.short HSh.out.1 HSh.out.2.2.1 HSh.out.2.2.2).wide
    have HSb : Hid (∀ r ∈ bfL cs, r.s.size ≤ 1048576) := HSh.out.1.bef
    have HSa : Hid (∀ r ∈ afL cs, r.s.size ≤ 1048576) := HSh.out.1.aft
    have HS1 : Hid (∀ x ∈ [(y : Chg)], x.b.s.size ≤ 1048576 ∧ x.a.s.size ≤ 1048576) := fun x hx => by
      simp only [List.mem_singleton] at hx
      rw [hx]
      exact ⟨Nat.le_trans HSh.out.2.2.1 (by decide), Nat.le_trans HSh.out.2.2.2 (by decide)⟩
    have HD : Hid (acQ (bfL cs) cs = 0 ∧ acL (bfL cs) cs = afL cs) := HFl.out.first
    obtain ⟨na0, hna0⟩ : ∃ m, (afL cs).length = m := ⟨_, rfl⟩
    have HNa0 : Hid ((afL cs).length = na0) := hna0
    have hna12 : na0 ≤ 12 := by
      have : (afL cs).length ≤ cs.length := List.length_filterMap_le _ _
      have := HSh.out.2.1
      omega
    obtain ⟨nb, hnb⟩ : ∃ m, (bfL cs).length = m := ⟨_, rfl⟩
    have HNb : Hid ((bfL cs).length = nb) := hnb
    have hnb12 : nb ≤ 12 := by
      have : (bfL cs).length ≤ cs.length := List.length_filterMap_le _ _
      have := HSh.out.2.1
      omega
    clear hna0 hnb
    have hL := ownsRow_lit0 Y2 26 4
    have gL : Below Y2.heap.size Y2 (Y2.alloc (.cells #[] 26)) := by go_grown
    go_wp2_with fail
    go_loopw [7, 6] (fun i v wr => ∃ j : Nat, j ≤ nc ∧ i = .int .i64 j ∧ Below Y2.heap.size Y2 wr ∧ ∃ g cap rs, v = .slice (some ⟨g, 0, none⟩) rs.length cap ∧ wr.ownsRow Y2.heap.size 26 4 (.slice (some ⟨g, 0, none⟩) rs.length cap) rs.length (flat rwE rs) ∧ rs = bfL (cs.take j)) (fun i _ _ => nc - (intOf i).toNat)
    case atStart => exact ⟨0, Nat.zero_le _, rfl, gL, _, _, [], rfl, hL, rfl⟩
    case round =>
      clear hL gL x0
      obtain ⟨j, hj, rfl, gr, pb, cb, rs, rfl, ho, hrs⟩ := hrel
      by_cases hlt : j < nc
      · obtain ⟨x, hx⟩ : ∃ x, cs[j]? = some x := ⟨_, List.getElem?_eq_getElem (by rw [HNc.out]; exact hlt)⟩
        have hbs := bf_snoc hx
        have hlen : rs.length ≤ 12 := by
          have h1 : (bfL (cs.take j)).length ≤ (cs.take j).length := List.length_filterMap_le _ _
          rw [← hrs, List.length_take] at h1
          omega
        obtain ⟨lb, lo, rfl, X⟩ := (HK2.out wr gr).2.1.chg hx
        have hjn : (j : Int) < (nc : Int) := by omega
        obtain ⟨xw, ⟨xbt, xbk, xbv, xbs⟩, xi, ⟨xat, xak, xav, xas⟩⟩ := x
        clear hx
        obtain ⟨x0, x1, x2, x3, x4, -⟩ := X
        dsimp only at x0 x1 x2 x3 x4
        cases xw
        case false =>
          have HR : Hid (rs = bfL (cs.take (j + 1))) := by show _ = _; rw [hbs, hrs]; simp [befR]
          clear hbs hrs
          go_wp2_with fail
          go_roundw
          case rel => exact ⟨j + 1, by omega, by go_num, gr, pb, cb, rs, rfl, ho, HR.out⟩
          case measure => simp [intOf]; omega
        case true =>
          have HR : Hid (rs ++ [⟨xbt, xbk, xbv, xbs⟩] = bfL (cs.take (j + 1))) := by show _ = _; rw [hbs, hrs]; simp [befR]
          clear hbs hrs
          have hl1 : rs.length + 1 ≤ 100000000 := by omega
          have hrw := gr.size
          go_wp2_with (at_builtin; refine wpList_append_sl elW _ rfl _ _ rfl Y2.heap.size _ rs [⟨xbt, xbk, xbv, xbs⟩] (some ⟨wr.heap.size, 0, none⟩) 1 1 rfl rfl rfl (ownsRow_below ho (by go_grown)) (rs_one (enc := rwE) wr ⟨xbt, xbk, xbv, xbs⟩ 26) hl1 (by simp; omega) ?_)
          intro v' w' ho' hg' hbk
          have hlow : ∀ k, (Value.slice (some ⟨pb, 0, none⟩) rs.length cb).ownBlock = some k → Y2.heap.size ≤ k := fun k hk => (World.ownsRow.lt ho k hk).1
          have gA : Below Y2.heap.size wr w' := Below.grown ((Below.refl Y2.heap.size wr).alloc hrw _) hg' (by simp; omega) hlow
          obtain ⟨ng, ncap, rfl⟩ := ownsRow_some ho' (by rcases hbk with h | h <;> rw [h] <;> simp [Value.ownBlock])
          have HO : Hid (w'.ownsRow Y2.heap.size 26 4 (.slice (some ⟨ng, 0, none⟩) (rs ++ [(⟨xbt, xbk, xbv, xbs⟩ : Rw)]).length ncap) (rs ++ [(⟨xbt, xbk, xbv, xbs⟩ : Rw)]).length (flat rwE (rs ++ [(⟨xbt, xbk, xbv, xbs⟩ : Rw)]))) := by show World.ownsRow _ _ _ _ _ _ _; rw [List.length_append]; exact ho'
          have gr2 := gr.trans gA
          clear ho ho' hg' hbk hlow gA
          go_wp2_with fail
          go_roundw
          case rel => exact ⟨j + 1, by omega, by go_num, gr2, ng, ncap, _, by simp, HO.out, HR.out⟩
          case measure => simp [intOf]; omega
      · have hjn : ¬ (j : Int) < (nc : Int) := by omega
        have hj2 : j = nc := by omega
        have hrs : rs = bfL cs := by rw [hrs, hj2, ← HNc.out, List.take_length]
        subst hrs
        rw [HNb.out] at ho ⊢
        have hRb : Rs rwE 4 wr (some ⟨pb, 0, none⟩) (bfL cs) := by
          obtain ⟨a', c', e', -, hin, -⟩ := SlIn.ofRow rwE_len (by rw [HNb.out]; exact ho)
          rw [HNb.out] at e'
          cases e'
          exact hin.reads
        have HF : Hid (∀ V, Below wr.heap.size wr V → ChC V kb 0 y ∧ Rs rwE 4 V (some ⟨pb, 0, none⟩) (bfL cs) ∧ Rs chE 10 V pl cs ∧ Rs chE 10 V pr (fcL cs y) ∧ V.cell? ⟨rb, 1, none⟩ = some (.slice pr nr cr) ∧ Below w.heap.size w V) := fun V hV =>
          have k := HK2.out V (gr.trans (hV.mono gr.size))
          ⟨k.1, hRb.below hV (Nat.le_refl _), k.2.1, k.2.2.1, k.2.2.2.1, k.2.2.2.2⟩
        clear ho gr HK2 hRb hrs hj hj2 hlt
        have c0 := (HF.out wr (Below.refl _ _)).1.c0
        go_upto_region 13 with (fail)
        go_cut [60] from 33 to 60 (fun s60 wc => s60 = .bool y.was ∧ Below wr.heap.size wr wc)
        case first =>
          cases hw : y.was
          case false =>
            rw [hw] at c0
            go_wp2_with fail
            go_meet
            case rel => exact ⟨by rw [hw], Below.refl _ _⟩
          case true =>
            rw [hw] at c0
            have hcon := implApplyChanges_any (some ⟨pb, 0, none⟩) pl (bfL cs) cs nb nc cb cl wr HNb.out HNc.out (by omega) (by omega) HSb.out HSl.out (HF.out wr (Below.refl _ _)).2.1 (HF.out wr (Below.refl _ _)).2.2.1
            go_wp2_with (go_at_call 8; refine hcon.mono ?_)
            rintro e w4 hac
            obtain ⟨px, cx, rfl, g4, -⟩ := hac.form
            rw [HD.out.1, HD.out.2, HNa0.out]
            clear hcon hac c0
            go_wp2_with fail
            go_meet
            case rel => exact ⟨by rw [hw], g4⟩
        case rest =>
        obtain ⟨rfl, g4⟩ := hcut
        obtain ⟨w4, hw4⟩ : ∃ w4, w4 = wc := ⟨_, rfl⟩
        subst hw4
        have HF2 : Hid (∀ V, Below w4.heap.size w4 V → ChC V kb 0 y ∧ Rs rwE 4 V (some ⟨pb, 0, none⟩) (bfL cs) ∧ Rs chE 10 V pl cs ∧ Rs chE 10 V pr (fcL cs y) ∧ V.cell? ⟨rb, 1, none⟩ = some (.slice pr nr cr) ∧ Below w.heap.size w V) := fun V hV => HF.out V (g4.trans (hV.mono g4.size))
        clear HF c0 g4
        have HF := HF2
        clear HF2
        go_upto_if 60 with (fail)
        go_cut [8, 9] from 33 to 128 (fun s8 s9 wc => Below w4.heap.size w4 wc ∧ (y.was = true → fndB cs y = true))
        case first =>
          cases hw : y.was
          case false =>
            go_wp2_with fail
            go_meet
            case rel => exact ⟨Below.refl _ _, fun h => by rw [hw] at h; cases h⟩
          case true =>
            go_wp2_with fail
            go_loopw [9, 8] (fun i v wr => ∃ j : Nat, j ≤ nc ∧ i = .int .i64 j ∧ v = .bool (fndB (cs.take j) y) ∧ Below w4.heap.size w4 wr) (fun i _ _ => nc - (intOf i).toNat)
            case atStart => exact ⟨0, Nat.zero_le _, rfl, rfl, Below.refl _ _⟩
            case round =>
              obtain ⟨j, hj, rfl, rfl, g⟩ := hrel
              by_cases hlt : j < nc
              · obtain ⟨x, hx⟩ : ∃ x, cs[j]? = some x := ⟨_, List.getElem?_eq_getElem (by rw [HNc.out]; exact hlt)⟩
                obtain ⟨hC, -, hRl, -⟩ := HF.out _ g
                obtain ⟨lb, lo, rfl, X⟩ := hRl.chg hx
                have hjn : (j : Int) < (nc : Int) := by omega
                obtain ⟨xw, ⟨xbt, xbk, xbv, xbs⟩, xi, ⟨xat, xak, xav, xas⟩⟩ := x
                obtain ⟨-, -, -, -, -, x5, x6, x7, x8, x9⟩ := X
                obtain ⟨-, c1, c2, c3, c4, -⟩ := hC
                dsimp only at x5 x6 x7 x8 x9
                clear hRl
                cases hfb : fndB (cs.take j) y
                case true =>
                  have HFb : Hid (fndB (cs.take (j + 1)) y = true) := by show _ = _; rw [fnd_snoc hx, hfb]; rfl
                  clear hx hfb
                  go_upto_region 18 with (fail)
                  go_quiet (fail)
                  go_wp2_with fail
                  go_roundw
                  case rel => exact ⟨j + 1, by omega, by go_num, by rw [HFb.out], g.trans ⟨rfl, rfl, rfl, Nat.le_refl _, fun _ _ => rfl⟩⟩
                  case measure => simp [intOf]; omega
                case false =>
                  cases xi
                  case false =>
                    have HFb : Hid (fndB (cs.take (j + 1)) y = false) := by show _ = _; rw [fnd_snoc hx, hfb]; rfl
                    clear hx hfb
                    go_upto_region 18 with (fail)
                    go_quiet (fail)
                    go_wp2_with fail
                    go_roundw
                    case rel => exact ⟨j + 1, by omega, by go_num, by rw [HFb.out], g.trans ⟨rfl, rfl, rfl, Nat.le_refl _, fun _ _ => rfl⟩⟩
                    case measure => simp [intOf]; omega
                  case true =>
                    by_cases hd0 : y.b.t = xat
                    · subst hd0
                      by_cases hd0 : y.b.k = xak
                      · subst hd0
                        by_cases hd0 : y.b.v = xav
                        · subst hd0
                          by_cases hd0 : y.b.s = xas
                          · subst hd0
                            have HFb : Hid (fndB (cs.take (j + 1)) y = true) := by show _ = _; rw [fnd_snoc hx, hfb]; simp [rwEq]
                            clear hx hfb
                            go_upto_region 18 with (fail)
                            go_quiet (fail)
                            go_wp2_with fail
                            go_roundw
                            case rel => exact ⟨j + 1, by omega, by go_num, by rw [HFb.out], g.trans ⟨rfl, rfl, rfl, Nat.le_refl _, fun _ _ => rfl⟩⟩
                            case measure => simp [intOf]; omega
                          · have hd : ¬ xas = y.b.s := fun e => hd0 e.symm
                            clear hd0
                            have dd : ¬ xas.toList = y.b.s.toList := fun h => hd (by rw [ByteArray.toList_eq, ByteArray.toList_eq] at h; exact ByteArray.ext (Array.toList_inj.1 h))
                            have HFb : Hid (fndB (cs.take (j + 1)) y = false) := by show _ = _; rw [fnd_snoc hx, hfb]; simp [rwEq, hd]
                            clear hx hfb
                            go_upto_region 18 with (fail)
                            go_quiet (fail)
                            go_wp2_with fail
                            go_roundw
                            case rel => exact ⟨j + 1, by omega, by go_num, by rw [HFb.out], g.trans ⟨rfl, rfl, rfl, Nat.le_refl _, fun _ _ => rfl⟩⟩
                            case measure => simp [intOf]; omega
                        · have hd : ¬ xav = y.b.v := fun e => hd0 e.symm
                          clear hd0
                          have dd : (xav == y.b.v) = false := by simpa using hd
                          have HFb : Hid (fndB (cs.take (j + 1)) y = false) := by show _ = _; rw [fnd_snoc hx, hfb]; simp [rwEq, hd]
                          clear hx hfb
                          go_upto_region 18 with (fail)
                          go_quiet (fail)
                          go_wp2_with fail
                          go_roundw
                          case rel => exact ⟨j + 1, by omega, by go_num, by rw [HFb.out], g.trans ⟨rfl, rfl, rfl, Nat.le_refl _, fun _ _ => rfl⟩⟩
                          case measure => simp [intOf]; omega
                      · have hd : ¬ xak = y.b.k := fun e => hd0 e.symm
                        clear hd0
                        have dd : (xak == y.b.k) = false := by simpa using hd
                        have HFb : Hid (fndB (cs.take (j + 1)) y = false) := by show _ = _; rw [fnd_snoc hx, hfb]; simp [rwEq, hd]
                        clear hx hfb
                        go_upto_region 18 with (fail)
                        go_quiet (fail)
                        go_wp2_with fail
                        go_roundw
                        case rel => exact ⟨j + 1, by omega, by go_num, by rw [HFb.out], g.trans ⟨rfl, rfl, rfl, Nat.le_refl _, fun _ _ => rfl⟩⟩
                        case measure => simp [intOf]; omega
                    · have hd : ¬ xat = y.b.t := fun e => hd0 e.symm
                      clear hd0
                      have dd : (xat == y.b.t) = false := by simpa using hd
                      have HFb : Hid (fndB (cs.take (j + 1)) y = false) := by show _ = _; rw [fnd_snoc hx, hfb]; simp [rwEq, hd]
                      clear hx hfb
                      go_upto_region 18 with (fail)
                      go_quiet (fail)
                      go_wp2_with fail
                      go_roundw
                      case rel => exact ⟨j + 1, by omega, by go_num, by rw [HFb.out], g.trans ⟨rfl, rfl, rfl, Nat.le_refl _, fun _ _ => rfl⟩⟩
                      case measure => simp [intOf]; omega
              · have hjn : ¬ (j : Int) < (nc : Int) := by omega
                have hj2 : j = nc := by omega
                have hall : cs.take j = cs := by rw [hj2, ← HNc.out, List.take_length]
                rw [hall]
                clear hj2 hlt hj hall
                cases hfb : fndB cs y
                case false =>
                  have hlost := HFl.out.lost hw hfb
                  rw [HNr.out, HNc.out] at hlost
                  have r1 := (HF.out _ g).2.2.2.2.1
                  have gw := (HF.out _ g).2.2.2.2.2
                  subst hlost
                  go_wp2_with fail
                  go_ret
                  exact ⟨by rfl, by go_grown⟩
                case true =>
                  go_wp2_with fail
                  go_meet
                  case rel => exact ⟨g, fun _ => hfb⟩
        case rest =>
        obtain ⟨gt, hH⟩ := hcut
        have HF2 : Hid (∀ V, Below wc.heap.size wc V → ChC V kb 0 y ∧ Rs rwE 4 V (some ⟨pb, 0, none⟩) (bfL cs) ∧ Rs chE 10 V pl cs ∧ Rs chE 10 V pr (fcL cs y) ∧ V.cell? ⟨rb, 1, none⟩ = some (.slice pr nr cr) ∧ Below w.heap.size w V) := fun V hV => HF.out V (gt.trans (hV.mono gt.size))
        clear HF gt
        have HF := HF2
        clear HF2
        have HB : Hid (acQ (afL cs) [y] = 0 ∧ acQ (bfL cs) (fcL cs y) = 0 ∧ acL (bfL cs) (fcL cs y) = acL (afL cs) [y]) := HFl.out.both hH
        obtain ⟨na, hna⟩ : ∃ m, (acL (afL cs) [y]).length = m := ⟨_, rfl⟩
        have HNa : Hid ((acL (afL cs) [y]).length = na) := hna
        have hna60 : na ≤ 60 := by rw [← hna]; exact acL_len _ _
        clear hna hH
        have HA2 : Hid (∀ V, Below wc.heap.size wc V → Calls Try.prog 8 #[.slice (some ⟨pb, 0, none⟩) nb cb, .slice pl nc cl] V fun e w' => ∃ px cx, e = .returned (.agg #[.int .i64 0, .slice px na0 cx]) ∧ Below V.heap.size V w' ∧ Rs rwE 4 w' px (afL cs)) := fun V hV => by
          refine (implApplyChanges_any (some ⟨pb, 0, none⟩) pl (bfL cs) cs nb nc cb cl V HNb.out HNc.out (by omega) (by omega) HSb.out HSl.out (HF.out _ hV).2.1 (HF.out _ hV).2.2.1).mono ?_
          intro e w' hac
          obtain ⟨px, cx, rfl, gg, hinx⟩ := hac.form
          rw [HD.out.2] at hinx
          exact ⟨px, cx, by rw [HD.out.1, HD.out.2, HNa0.out], gg, hinx.reads⟩
        have HA6 : Hid (∀ V px cx sb, Rs rwE 4 V px (afL cs) → Rs chE 10 V (some ⟨sb, 0, none⟩) [y] → Calls Try.prog 8 #[.slice px na0 cx, .slice (some ⟨sb, 0, none⟩) 1 1] V fun e w' => ∃ pa ca, e = .returned (.agg #[.int .i64 0, .slice pa na ca]) ∧ Below V.heap.size V w' ∧ SlIn rwE 4 V.heap.size w'.heap.size w' pa (acL (afL cs) [y])) := fun V px cx sb hp hq => by
          refine (implApplyChanges_any px (some ⟨sb, 0, none⟩) (afL cs) [y] na0 1 cx 1 V HNa0.out rfl (by omega) (by omega) HSa.out HS1.out hp hq).mono ?_
          intro e w' hac
          obtain ⟨pa, ca, rfl, gg, hina⟩ := hac.form
          exact ⟨pa, ca, by rw [HB.out.1, HNa.out], gg, hina⟩
        go_upto_region 21 with (fail)
        go_cut [10] from 94 to 100 (fun s10 wd => ∃ ab pa ca, s10 = .pointer (some ⟨ab, 0, none⟩) ∧ Below wc.heap.size wc wd ∧ wd.cell? ⟨ab, 0, none⟩ = some (.int .i64 0) ∧ wd.cell? ⟨ab, 1, none⟩ = some (.slice pa na ca) ∧ Rs rwE 4 wd pa (acL (afL cs) [y]))
        case first =>
          refine wp_region_held_drew (S := fun V => Below wc.heap.size wc V) (by kernel_rfl) (Below.refl wc.heap.size wc).drew (fun hHeld => ?_)
          generalize wc.drew = D at hHeld ⊢
          refine wpAnyH_take (i := 0) (v := ?v30) rfl (by kernel_rfl) (by kernel_rfl) (by kernel_rfl) (fun _ _ _ h => h) (Or.inl ⟨by kernel_rfl, ?h30⟩) hHeld ?_
          case h30 => intro u hSw; (clear hSw); go_simp; try with_reducible rfl
          try simp only [List.getElem_toArray]
          try simp only [List.getElem_cons_succ]
          try simp only [List.getElem_cons_zero]
          try simp only [Act.put]
          try simp only [List.setIfInBounds_toArray]
          try simp only [List.set]
          refine wpAnyH_take (i := 1) (v := ?v31) rfl (by kernel_rfl) (by kernel_rfl) (by kernel_rfl) (fun _ _ _ h => h) (Or.inl ⟨by kernel_rfl, ?h31⟩) hHeld ?_
          case h31 => intro u hSw; (clear hSw); go_simp; try with_reducible rfl
          try simp only [List.getElem_toArray]
          try simp only [List.getElem_cons_succ]
          try simp only [List.getElem_cons_zero]
          try simp only [Act.put]
          try simp only [List.setIfInBounds_toArray]
          try simp only [List.set]
          refine wpAnyH_take (i := 4) (v := ?v32) rfl (by kernel_rfl) (by kernel_rfl) (by kernel_rfl) (fun _ _ _ h => h) (Or.inl ⟨by kernel_rfl, ?h32⟩) hHeld ?_
          case h32 => intro u hSw; (obtain ⟨c0, c1, c2, c3, c4, c5, c6, c7, c8, c9⟩ := (HF.out _ hSw).1; clear hSw); go_simp; try with_reducible rfl
          try simp only [List.getElem_toArray]
          try simp only [List.getElem_cons_succ]
          try simp only [List.getElem_cons_zero]
          try simp only [Act.put]
          try simp only [List.setIfInBounds_toArray]
          try simp only [List.set]
          refine wpAnyH_ready (rs := [2, 5, 7]) (by kernel_rfl) (by simp) ?_
          refine AllReadyH.cons rfl (fun K hK => ?_) (AllReadyH.cons rfl (fun K hK => ?_) (AllReadyH.cons rfl (fun K hK => ?_) (AllReadyH.nil)))
          · rw [if_pos (by kernel_rfl)]
            go_wp2_with (go_at_call 8; refine (HA2.out D hHeld).mono ?_; rintro e U1 ⟨px, cx, rfl, gg, hp⟩)
            refine hK.out _ _ (hHeld.trans (gg.mono hHeld.size)) (fun hHeld => ?_)
            clear hK K
            clear gg
            try simp only [Act.put]
            try simp only [List.setIfInBounds_toArray]
            try simp only [List.set]
            refine wpAnyH_take (i := 3) (v := ?v33) rfl (by kernel_rfl) (by kernel_rfl) (by kernel_rfl) (fun _ _ _ h => h) (Or.inl ⟨by kernel_rfl, ?h33⟩) hHeld ?_
            case h33 => intro u hSw; (clear hSw); go_simp; try with_reducible rfl
            try simp only [List.getElem_toArray]
            try simp only [List.getElem_cons_succ]
            try simp only [List.getElem_cons_zero]
            try simp only [Act.put]
            try simp only [List.setIfInBounds_toArray]
            try simp only [List.set]
            refine wpAnyH_ready (rs := [5, 7]) (by kernel_rfl) (by simp) ?_
            refine AllReadyH.cons rfl (fun K hK => ?_) (AllReadyH.cons rfl (fun K hK => ?_) (AllReadyH.nil))
            · rw [if_pos (by kernel_rfl)]
              refine wp_lit_ch _ y rfl rfl (fun U2 sb hq gg => ?_)
              refine hK.out _ _ (hHeld.trans (gg.mono hHeld.size)) (fun hHeld => ?_)
              clear hK K
              have hp := hp.below gg (Nat.le_refl _)
              clear gg
              try simp only [List.getElem_toArray]
              try simp only [List.getElem_cons_succ]
              try simp only [List.getElem_cons_zero]
              try simp only [Act.put]
              try simp only [List.setIfInBounds_toArray]
              try simp only [List.set]
              refine wpAnyH_ready (rs := [6, 7]) (by kernel_rfl) (by simp) ?_
              refine AllReadyH.cons rfl (fun K hK => ?_) (AllReadyH.cons rfl (fun K hK => ?_) (AllReadyH.nil))
              · rw [if_pos (by kernel_rfl)]
                go_wp2_with (go_at_call 8; refine (HA6.out U2 px cx sb hp hq).mono ?_; rintro e U3 ⟨pa, ca, rfl, gg, hr⟩)
                obtain ⟨lo6, hlo6⟩ : ∃ m, m = U2.heap.size := ⟨_, rfl⟩
                obtain ⟨hi6, hhi6⟩ : ∃ m, m = U3.heap.size := ⟨_, rfl⟩
                rw [← hlo6, ← hhi6] at hr
                have hhi : hi6 ≤ U3.heap.size := by omega
                refine hK.out _ _ (hHeld.trans (gg.mono hHeld.size)) (fun hHeld => ?_)
                clear hK K
                clear gg hp hq hlo6 hhi6
                try simp only [Act.put]
                try simp only [List.setIfInBounds_toArray]
                try simp only [List.set]
                refine wpAnyH_ready (rs := [7]) (by kernel_rfl) (by simp) ?_
                refine AllReadyH.cons rfl (fun K hK => ?_) (AllReadyH.nil)
                rw [if_pos (by kernel_rfl)]
                refine wp_alloc_rr rfl (fun U4 ab hO gg hbe hal => ?_)
                have hab : wc.heap.size ≤ ab := by rw [hbe]; exact hHeld.size
                have hne : hi6 ≤ ab ∨ ab + 1 ≤ lo6 := .inl (by rw [hbe]; exact hhi)
                refine hK.out _ _ (hHeld.trans (gg.mono hHeld.size)) (fun hHeld => ?_)
                clear hK K hbe
                have hr := hr.upK gg hhi
                have hhi := Nat.le_trans hhi gg.size
                clear gg
                try simp only [List.getElem_toArray]
                try simp only [List.getElem_cons_succ]
                try simp only [List.getElem_cons_zero]
                try simp only [Act.put]
                try simp only [List.setIfInBounds_toArray]
                try simp only [List.set]
                refine wpAnyH_ready (rs := [8]) (by kernel_rfl) (by simp) ?_
                refine AllReadyH.cons rfl (fun K hK => ?_) AllReadyH.nil
                rw [if_pos (by kernel_rfl)]
                refine wp_store_rr _ _ ab 0 pa na ca rfl rfl rfl rfl hO (fun W9 b0 b1 T => ?_)
                have gT : Below wc.heap.size wc W9 := hHeld.trans (T.toBelow hHeld.size hab)
                have hra : Rs rwE 4 W9 pa (acL (afL cs) [y]) := (hr.turned T hne).reads
                clear T hr hO hal
                refine hK.out _ _ gT (fun hHeld => ?_)
                clear hK K
                try simp only [Act.put]
                try simp only [List.setIfInBounds_toArray]
                try simp only [List.set]
                refine wpAnyH_done (by kernel_rfl) ?_ _
                go_wp2_with fail
                go_meet
                case rel => exact ⟨ab, pa, ca, rfl, hHeld, b0, b1, hra⟩
              · rw [if_pos (by kernel_rfl)]
                refine wp_alloc_rr rfl (fun U5 ab hO gg hbe hal => ?_)
                have hab : wc.heap.size ≤ ab := by rw [hbe]; exact hHeld.size
                refine hK.out _ _ (hHeld.trans (gg.mono hHeld.size)) (fun hHeld => ?_)
                clear hK K hbe
                have hp := hp.below gg (Nat.le_refl _)
                have hq := hq.below gg (Nat.le_refl _)
                clear gg
                try simp only [List.getElem_toArray]
                try simp only [List.getElem_cons_succ]
                try simp only [List.getElem_cons_zero]
                try simp only [Act.put]
                try simp only [List.setIfInBounds_toArray]
                try simp only [List.set]
                refine wpAnyH_ready (rs := [6]) (by kernel_rfl) (by simp) ?_
                refine AllReadyH.cons rfl (fun K hK => ?_) (AllReadyH.nil)
                rw [if_pos (by kernel_rfl)]
                go_wp2_with (go_at_call 8; refine (HA6.out U5 px cx sb hp hq).mono ?_; rintro e U6 ⟨pa, ca, rfl, gg, hr⟩)
                obtain ⟨lo6, hlo6⟩ : ∃ m, m = U5.heap.size := ⟨_, rfl⟩
                obtain ⟨hi6, hhi6⟩ : ∃ m, m = U6.heap.size := ⟨_, rfl⟩
                rw [← hlo6, ← hhi6] at hr
                have hhi : hi6 ≤ U6.heap.size := by omega
                have hne : hi6 ≤ ab ∨ ab + 1 ≤ lo6 := .inr (by omega)
                refine hK.out _ _ (hHeld.trans (gg.mono hHeld.size)) (fun hHeld => ?_)
                clear hK K
                have hO := hO.below gg hal
                have hal := Nat.lt_of_lt_of_le hal gg.size
                clear gg hp hq hlo6 hhi6
                try simp only [Act.put]
                try simp only [List.setIfInBounds_toArray]
                try simp only [List.set]
                refine wpAnyH_ready (rs := [8]) (by kernel_rfl) (by simp) ?_
                refine AllReadyH.cons rfl (fun K hK => ?_) AllReadyH.nil
                rw [if_pos (by kernel_rfl)]
                refine wp_store_rr _ _ ab 0 pa na ca rfl rfl rfl rfl hO (fun W9 b0 b1 T => ?_)
                have gT : Below wc.heap.size wc W9 := hHeld.trans (T.toBelow hHeld.size hab)
                have hra : Rs rwE 4 W9 pa (acL (afL cs) [y]) := (hr.turned T hne).reads
                clear T hr hO hal
                refine hK.out _ _ gT (fun hHeld => ?_)
                clear hK K
                try simp only [Act.put]
                try simp only [List.setIfInBounds_toArray]
                try simp only [List.set]
                refine wpAnyH_done (by kernel_rfl) ?_ _
                go_wp2_with fail
                go_meet
                case rel => exact ⟨ab, pa, ca, rfl, hHeld, b0, b1, hra⟩
            · rw [if_pos (by kernel_rfl)]
              refine wp_alloc_rr rfl (fun U7 ab hO gg hbe hal => ?_)
              have hab : wc.heap.size ≤ ab := by rw [hbe]; exact hHeld.size
              refine hK.out _ _ (hHeld.trans (gg.mono hHeld.size)) (fun hHeld => ?_)
              clear hK K hbe
              have hp := hp.below gg (Nat.le_refl _)
              clear gg
              try simp only [List.getElem_toArray]
              try simp only [List.getElem_cons_succ]
              try simp only [List.getElem_cons_zero]
              try simp only [Act.put]
              try simp only [List.setIfInBounds_toArray]
              try simp only [List.set]
              refine wpAnyH_ready (rs := [5]) (by kernel_rfl) (by simp) ?_
              refine AllReadyH.cons rfl (fun K hK => ?_) (AllReadyH.nil)
              rw [if_pos (by kernel_rfl)]
              refine wp_lit_ch _ y rfl rfl (fun U8 sb hq gg => ?_)
              refine hK.out _ _ (hHeld.trans (gg.mono hHeld.size)) (fun hHeld => ?_)
              clear hK K
              have hp := hp.below gg (Nat.le_refl _)
              have hO := hO.below gg hal
              have hal := Nat.lt_of_lt_of_le hal gg.size
              clear gg
              try simp only [List.getElem_toArray]
              try simp only [List.getElem_cons_succ]
              try simp only [List.getElem_cons_zero]
              try simp only [Act.put]
              try simp only [List.setIfInBounds_toArray]
              try simp only [List.set]
              refine wpAnyH_ready (rs := [6]) (by kernel_rfl) (by simp) ?_
              refine AllReadyH.cons rfl (fun K hK => ?_) (AllReadyH.nil)
              rw [if_pos (by kernel_rfl)]
              go_wp2_with (go_at_call 8; refine (HA6.out U8 px cx sb hp hq).mono ?_; rintro e U9 ⟨pa, ca, rfl, gg, hr⟩)
              obtain ⟨lo6, hlo6⟩ : ∃ m, m = U8.heap.size := ⟨_, rfl⟩
              obtain ⟨hi6, hhi6⟩ : ∃ m, m = U9.heap.size := ⟨_, rfl⟩
              rw [← hlo6, ← hhi6] at hr
              have hhi : hi6 ≤ U9.heap.size := by omega
              have hne : hi6 ≤ ab ∨ ab + 1 ≤ lo6 := .inr (by omega)
              refine hK.out _ _ (hHeld.trans (gg.mono hHeld.size)) (fun hHeld => ?_)
              clear hK K
              have hO := hO.below gg hal
              have hal := Nat.lt_of_lt_of_le hal gg.size
              clear gg hp hq hlo6 hhi6
              try simp only [Act.put]
              try simp only [List.setIfInBounds_toArray]
              try simp only [List.set]
              refine wpAnyH_ready (rs := [8]) (by kernel_rfl) (by simp) ?_
              refine AllReadyH.cons rfl (fun K hK => ?_) AllReadyH.nil
              rw [if_pos (by kernel_rfl)]
              refine wp_store_rr _ _ ab 0 pa na ca rfl rfl rfl rfl hO (fun W9 b0 b1 T => ?_)
              have gT : Below wc.heap.size wc W9 := hHeld.trans (T.toBelow hHeld.size hab)
              have hra : Rs rwE 4 W9 pa (acL (afL cs) [y]) := (hr.turned T hne).reads
              clear T hr hO hal
              refine hK.out _ _ gT (fun hHeld => ?_)
              clear hK K
              try simp only [Act.put]
              try simp only [List.setIfInBounds_toArray]
              try simp only [List.set]
              refine wpAnyH_done (by kernel_rfl) ?_ _
              go_wp2_with fail
              go_meet
              case rel => exact ⟨ab, pa, ca, rfl, hHeld, b0, b1, hra⟩
          · rw [if_pos (by kernel_rfl)]
            refine wp_lit_ch _ y rfl rfl (fun U10 sb hq gg => ?_)
            refine hK.out _ _ (hHeld.trans (gg.mono hHeld.size)) (fun hHeld => ?_)
            clear hK K
            clear gg
            try simp only [List.getElem_toArray]
            try simp only [List.getElem_cons_succ]
            try simp only [List.getElem_cons_zero]
            try simp only [Act.put]
            try simp only [List.setIfInBounds_toArray]
            try simp only [List.set]
            refine wpAnyH_ready (rs := [2, 7]) (by kernel_rfl) (by simp) ?_
            refine AllReadyH.cons rfl (fun K hK => ?_) (AllReadyH.cons rfl (fun K hK => ?_) (AllReadyH.nil))
            · rw [if_pos (by kernel_rfl)]
              go_wp2_with (go_at_call 8; refine (HA2.out U10 hHeld).mono ?_; rintro e U11 ⟨px, cx, rfl, gg, hp⟩)
              refine hK.out _ _ (hHeld.trans (gg.mono hHeld.size)) (fun hHeld => ?_)
              clear hK K
              have hq := hq.below gg (Nat.le_refl _)
              clear gg
              try simp only [Act.put]
              try simp only [List.setIfInBounds_toArray]
              try simp only [List.set]
              refine wpAnyH_take (i := 3) (v := ?v34) rfl (by kernel_rfl) (by kernel_rfl) (by kernel_rfl) (fun _ _ _ h => h) (Or.inl ⟨by kernel_rfl, ?h34⟩) hHeld ?_
              case h34 => intro u hSw; (clear hSw); go_simp; try with_reducible rfl
              try simp only [List.getElem_toArray]
              try simp only [List.getElem_cons_succ]
              try simp only [List.getElem_cons_zero]
              try simp only [Act.put]
              try simp only [List.setIfInBounds_toArray]
              try simp only [List.set]
              refine wpAnyH_ready (rs := [6, 7]) (by kernel_rfl) (by simp) ?_
              refine AllReadyH.cons rfl (fun K hK => ?_) (AllReadyH.cons rfl (fun K hK => ?_) (AllReadyH.nil))
              · rw [if_pos (by kernel_rfl)]
                go_wp2_with (go_at_call 8; refine (HA6.out U11 px cx sb hp hq).mono ?_; rintro e U12 ⟨pa, ca, rfl, gg, hr⟩)
                obtain ⟨lo6, hlo6⟩ : ∃ m, m = U11.heap.size := ⟨_, rfl⟩
                obtain ⟨hi6, hhi6⟩ : ∃ m, m = U12.heap.size := ⟨_, rfl⟩
                rw [← hlo6, ← hhi6] at hr
                have hhi : hi6 ≤ U12.heap.size := by omega
                refine hK.out _ _ (hHeld.trans (gg.mono hHeld.size)) (fun hHeld => ?_)
                clear hK K
                clear gg hp hq hlo6 hhi6
                try simp only [Act.put]
                try simp only [List.setIfInBounds_toArray]
                try simp only [List.set]
                refine wpAnyH_ready (rs := [7]) (by kernel_rfl) (by simp) ?_
                refine AllReadyH.cons rfl (fun K hK => ?_) (AllReadyH.nil)
                rw [if_pos (by kernel_rfl)]
                refine wp_alloc_rr rfl (fun U13 ab hO gg hbe hal => ?_)
                have hab : wc.heap.size ≤ ab := by rw [hbe]; exact hHeld.size
                have hne : hi6 ≤ ab ∨ ab + 1 ≤ lo6 := .inl (by rw [hbe]; exact hhi)
                refine hK.out _ _ (hHeld.trans (gg.mono hHeld.size)) (fun hHeld => ?_)
                clear hK K hbe
                have hr := hr.upK gg hhi
                have hhi := Nat.le_trans hhi gg.size
                clear gg
                try simp only [List.getElem_toArray]
                try simp only [List.getElem_cons_succ]
                try simp only [List.getElem_cons_zero]
                try simp only [Act.put]
                try simp only [List.setIfInBounds_toArray]
                try simp only [List.set]
                refine wpAnyH_ready (rs := [8]) (by kernel_rfl) (by simp) ?_
                refine AllReadyH.cons rfl (fun K hK => ?_) AllReadyH.nil
                rw [if_pos (by kernel_rfl)]
                refine wp_store_rr _ _ ab 0 pa na ca rfl rfl rfl rfl hO (fun W9 b0 b1 T => ?_)
                have gT : Below wc.heap.size wc W9 := hHeld.trans (T.toBelow hHeld.size hab)
                have hra : Rs rwE 4 W9 pa (acL (afL cs) [y]) := (hr.turned T hne).reads
                clear T hr hO hal
                refine hK.out _ _ gT (fun hHeld => ?_)
                clear hK K
                try simp only [Act.put]
                try simp only [List.setIfInBounds_toArray]
                try simp only [List.set]
                refine wpAnyH_done (by kernel_rfl) ?_ _
                go_wp2_with fail
                go_meet
                case rel => exact ⟨ab, pa, ca, rfl, hHeld, b0, b1, hra⟩
              · rw [if_pos (by kernel_rfl)]
                refine wp_alloc_rr rfl (fun U14 ab hO gg hbe hal => ?_)
                have hab : wc.heap.size ≤ ab := by rw [hbe]; exact hHeld.size
                refine hK.out _ _ (hHeld.trans (gg.mono hHeld.size)) (fun hHeld => ?_)
                clear hK K hbe
                have hp := hp.below gg (Nat.le_refl _)
                have hq := hq.below gg (Nat.le_refl _)
                clear gg
                try simp only [List.getElem_toArray]
                try simp only [List.getElem_cons_succ]
                try simp only [List.getElem_cons_zero]
                try simp only [Act.put]
                try simp only [List.setIfInBounds_toArray]
                try simp only [List.set]
                refine wpAnyH_ready (rs := [6]) (by kernel_rfl) (by simp) ?_
                refine AllReadyH.cons rfl (fun K hK => ?_) (AllReadyH.nil)
                rw [if_pos (by kernel_rfl)]
                go_wp2_with (go_at_call 8; refine (HA6.out U14 px cx sb hp hq).mono ?_; rintro e U15 ⟨pa, ca, rfl, gg, hr⟩)
                obtain ⟨lo6, hlo6⟩ : ∃ m, m = U14.heap.size := ⟨_, rfl⟩
                obtain ⟨hi6, hhi6⟩ : ∃ m, m = U15.heap.size := ⟨_, rfl⟩
                rw [← hlo6, ← hhi6] at hr
                have hhi : hi6 ≤ U15.heap.size := by omega
                have hne : hi6 ≤ ab ∨ ab + 1 ≤ lo6 := .inr (by omega)
                refine hK.out _ _ (hHeld.trans (gg.mono hHeld.size)) (fun hHeld => ?_)
                clear hK K
                have hO := hO.below gg hal
                have hal := Nat.lt_of_lt_of_le hal gg.size
                clear gg hp hq hlo6 hhi6
                try simp only [Act.put]
                try simp only [List.setIfInBounds_toArray]
                try simp only [List.set]
                refine wpAnyH_ready (rs := [8]) (by kernel_rfl) (by simp) ?_
                refine AllReadyH.cons rfl (fun K hK => ?_) AllReadyH.nil
                rw [if_pos (by kernel_rfl)]
                refine wp_store_rr _ _ ab 0 pa na ca rfl rfl rfl rfl hO (fun W9 b0 b1 T => ?_)
                have gT : Below wc.heap.size wc W9 := hHeld.trans (T.toBelow hHeld.size hab)
                have hra : Rs rwE 4 W9 pa (acL (afL cs) [y]) := (hr.turned T hne).reads
                clear T hr hO hal
                refine hK.out _ _ gT (fun hHeld => ?_)
                clear hK K
                try simp only [Act.put]
                try simp only [List.setIfInBounds_toArray]
                try simp only [List.set]
                refine wpAnyH_done (by kernel_rfl) ?_ _
                go_wp2_with fail
                go_meet
                case rel => exact ⟨ab, pa, ca, rfl, hHeld, b0, b1, hra⟩
            · rw [if_pos (by kernel_rfl)]
              refine wp_alloc_rr rfl (fun U16 ab hO gg hbe hal => ?_)
              have hab : wc.heap.size ≤ ab := by rw [hbe]; exact hHeld.size
              refine hK.out _ _ (hHeld.trans (gg.mono hHeld.size)) (fun hHeld => ?_)
              clear hK K hbe
              have hq := hq.below gg (Nat.le_refl _)
              clear gg
              try simp only [List.getElem_toArray]
              try simp only [List.getElem_cons_succ]
              try simp only [List.getElem_cons_zero]
              try simp only [Act.put]
              try simp only [List.setIfInBounds_toArray]
              try simp only [List.set]
              refine wpAnyH_ready (rs := [2]) (by kernel_rfl) (by simp) ?_
              refine AllReadyH.cons rfl (fun K hK => ?_) (AllReadyH.nil)
              rw [if_pos (by kernel_rfl)]
              go_wp2_with (go_at_call 8; refine (HA2.out U16 hHeld).mono ?_; rintro e U17 ⟨px, cx, rfl, gg, hp⟩)
              refine hK.out _ _ (hHeld.trans (gg.mono hHeld.size)) (fun hHeld => ?_)
              clear hK K
              have hq := hq.below gg (Nat.le_refl _)
              have hO := hO.below gg hal
              have hal := Nat.lt_of_lt_of_le hal gg.size
              clear gg
              try simp only [Act.put]
              try simp only [List.setIfInBounds_toArray]
              try simp only [List.set]
              refine wpAnyH_take (i := 3) (v := ?v35) rfl (by kernel_rfl) (by kernel_rfl) (by kernel_rfl) (fun _ _ _ h => h) (Or.inl ⟨by kernel_rfl, ?h35⟩) hHeld ?_
              case h35 => intro u hSw; (clear hSw); go_simp; try with_reducible rfl
              try simp only [List.getElem_toArray]
              try simp only [List.getElem_cons_succ]
              try simp only [List.getElem_cons_zero]
              try simp only [Act.put]
              try simp only [List.setIfInBounds_toArray]
              try simp only [List.set]
              refine wpAnyH_ready (rs := [6]) (by kernel_rfl) (by simp) ?_
              refine AllReadyH.cons rfl (fun K hK => ?_) (AllReadyH.nil)
              rw [if_pos (by kernel_rfl)]
              go_wp2_with (go_at_call 8; refine (HA6.out U17 px cx sb hp hq).mono ?_; rintro e U18 ⟨pa, ca, rfl, gg, hr⟩)
              obtain ⟨lo6, hlo6⟩ : ∃ m, m = U17.heap.size := ⟨_, rfl⟩
              obtain ⟨hi6, hhi6⟩ : ∃ m, m = U18.heap.size := ⟨_, rfl⟩
              rw [← hlo6, ← hhi6] at hr
              have hhi : hi6 ≤ U18.heap.size := by omega
              have hne : hi6 ≤ ab ∨ ab + 1 ≤ lo6 := .inr (by omega)
              refine hK.out _ _ (hHeld.trans (gg.mono hHeld.size)) (fun hHeld => ?_)
              clear hK K
              have hO := hO.below gg hal
              have hal := Nat.lt_of_lt_of_le hal gg.size
              clear gg hp hq hlo6 hhi6
              try simp only [Act.put]
              try simp only [List.setIfInBounds_toArray]
              try simp only [List.set]
              refine wpAnyH_ready (rs := [8]) (by kernel_rfl) (by simp) ?_
              refine AllReadyH.cons rfl (fun K hK => ?_) AllReadyH.nil
              rw [if_pos (by kernel_rfl)]
              refine wp_store_rr _ _ ab 0 pa na ca rfl rfl rfl rfl hO (fun W9 b0 b1 T => ?_)
              have gT : Below wc.heap.size wc W9 := hHeld.trans (T.toBelow hHeld.size hab)
              have hra : Rs rwE 4 W9 pa (acL (afL cs) [y]) := (hr.turned T hne).reads
              clear T hr hO hal
              refine hK.out _ _ gT (fun hHeld => ?_)
              clear hK K
              try simp only [Act.put]
              try simp only [List.setIfInBounds_toArray]
              try simp only [List.set]
              refine wpAnyH_done (by kernel_rfl) ?_ _
              go_wp2_with fail
              go_meet
              case rel => exact ⟨ab, pa, ca, rfl, hHeld, b0, b1, hra⟩
          · rw [if_pos (by kernel_rfl)]
            refine wp_alloc_rr rfl (fun U19 ab hO gg hbe hal => ?_)
            have hab : wc.heap.size ≤ ab := by rw [hbe]; exact hHeld.size
            refine hK.out _ _ (hHeld.trans (gg.mono hHeld.size)) (fun hHeld => ?_)
            clear hK K hbe
            clear gg
            try simp only [List.getElem_toArray]
            try simp only [List.getElem_cons_succ]
            try simp only [List.getElem_cons_zero]
            try simp only [Act.put]
            try simp only [List.setIfInBounds_toArray]
            try simp only [List.set]
            refine wpAnyH_ready (rs := [2, 5]) (by kernel_rfl) (by simp) ?_
            refine AllReadyH.cons rfl (fun K hK => ?_) (AllReadyH.cons rfl (fun K hK => ?_) (AllReadyH.nil))
            · rw [if_pos (by kernel_rfl)]
              go_wp2_with (go_at_call 8; refine (HA2.out U19 hHeld).mono ?_; rintro e U20 ⟨px, cx, rfl, gg, hp⟩)
              refine hK.out _ _ (hHeld.trans (gg.mono hHeld.size)) (fun hHeld => ?_)
              clear hK K
              have hO := hO.below gg hal
              have hal := Nat.lt_of_lt_of_le hal gg.size
              clear gg
              try simp only [Act.put]
              try simp only [List.setIfInBounds_toArray]
              try simp only [List.set]
              refine wpAnyH_take (i := 3) (v := ?v36) rfl (by kernel_rfl) (by kernel_rfl) (by kernel_rfl) (fun _ _ _ h => h) (Or.inl ⟨by kernel_rfl, ?h36⟩) hHeld ?_
              case h36 => intro u hSw; (clear hSw); go_simp; try with_reducible rfl
              try simp only [List.getElem_toArray]
              try simp only [List.getElem_cons_succ]
              try simp only [List.getElem_cons_zero]
              try simp only [Act.put]
              try simp only [List.setIfInBounds_toArray]
              try simp only [List.set]
              refine wpAnyH_ready (rs := [5]) (by kernel_rfl) (by simp) ?_
              refine AllReadyH.cons rfl (fun K hK => ?_) (AllReadyH.nil)
              rw [if_pos (by kernel_rfl)]
              refine wp_lit_ch _ y rfl rfl (fun U21 sb hq gg => ?_)
              refine hK.out _ _ (hHeld.trans (gg.mono hHeld.size)) (fun hHeld => ?_)
              clear hK K
              have hp := hp.below gg (Nat.le_refl _)
              have hO := hO.below gg hal
              have hal := Nat.lt_of_lt_of_le hal gg.size
              clear gg
              try simp only [List.getElem_toArray]
              try simp only [List.getElem_cons_succ]
              try simp only [List.getElem_cons_zero]
              try simp only [Act.put]
              try simp only [List.setIfInBounds_toArray]
              try simp only [List.set]
              refine wpAnyH_ready (rs := [6]) (by kernel_rfl) (by simp) ?_
              refine AllReadyH.cons rfl (fun K hK => ?_) (AllReadyH.nil)
              rw [if_pos (by kernel_rfl)]
              go_wp2_with (go_at_call 8; refine (HA6.out U21 px cx sb hp hq).mono ?_; rintro e U22 ⟨pa, ca, rfl, gg, hr⟩)
              obtain ⟨lo6, hlo6⟩ : ∃ m, m = U21.heap.size := ⟨_, rfl⟩
              obtain ⟨hi6, hhi6⟩ : ∃ m, m = U22.heap.size := ⟨_, rfl⟩
              rw [← hlo6, ← hhi6] at hr
              have hhi : hi6 ≤ U22.heap.size := by omega
              have hne : hi6 ≤ ab ∨ ab + 1 ≤ lo6 := .inr (by omega)
              refine hK.out _ _ (hHeld.trans (gg.mono hHeld.size)) (fun hHeld => ?_)
              clear hK K
              have hO := hO.below gg hal
              have hal := Nat.lt_of_lt_of_le hal gg.size
              clear gg hp hq hlo6 hhi6
              try simp only [Act.put]
              try simp only [List.setIfInBounds_toArray]
              try simp only [List.set]
              refine wpAnyH_ready (rs := [8]) (by kernel_rfl) (by simp) ?_
              refine AllReadyH.cons rfl (fun K hK => ?_) AllReadyH.nil
              rw [if_pos (by kernel_rfl)]
              refine wp_store_rr _ _ ab 0 pa na ca rfl rfl rfl rfl hO (fun W9 b0 b1 T => ?_)
              have gT : Below wc.heap.size wc W9 := hHeld.trans (T.toBelow hHeld.size hab)
              have hra : Rs rwE 4 W9 pa (acL (afL cs) [y]) := (hr.turned T hne).reads
              clear T hr hO hal
              refine hK.out _ _ gT (fun hHeld => ?_)
              clear hK K
              try simp only [Act.put]
              try simp only [List.setIfInBounds_toArray]
              try simp only [List.set]
              refine wpAnyH_done (by kernel_rfl) ?_ _
              go_wp2_with fail
              go_meet
              case rel => exact ⟨ab, pa, ca, rfl, hHeld, b0, b1, hra⟩
            · rw [if_pos (by kernel_rfl)]
              refine wp_lit_ch _ y rfl rfl (fun U23 sb hq gg => ?_)
              refine hK.out _ _ (hHeld.trans (gg.mono hHeld.size)) (fun hHeld => ?_)
              clear hK K
              have hO := hO.below gg hal
              have hal := Nat.lt_of_lt_of_le hal gg.size
              clear gg
              try simp only [List.getElem_toArray]
              try simp only [List.getElem_cons_succ]
              try simp only [List.getElem_cons_zero]
              try simp only [Act.put]
              try simp only [List.setIfInBounds_toArray]
              try simp only [List.set]
              refine wpAnyH_ready (rs := [2]) (by kernel_rfl) (by simp) ?_
              refine AllReadyH.cons rfl (fun K hK => ?_) (AllReadyH.nil)
              rw [if_pos (by kernel_rfl)]
              go_wp2_with (go_at_call 8; refine (HA2.out U23 hHeld).mono ?_; rintro e U24 ⟨px, cx, rfl, gg, hp⟩)
              refine hK.out _ _ (hHeld.trans (gg.mono hHeld.size)) (fun hHeld => ?_)
              clear hK K
              have hq := hq.below gg (Nat.le_refl _)
              have hO := hO.below gg hal
              have hal := Nat.lt_of_lt_of_le hal gg.size
              clear gg
              try simp only [Act.put]
              try simp only [List.setIfInBounds_toArray]
              try simp only [List.set]
              refine wpAnyH_take (i := 3) (v := ?v37) rfl (by kernel_rfl) (by kernel_rfl) (by kernel_rfl) (fun _ _ _ h => h) (Or.inl ⟨by kernel_rfl, ?h37⟩) hHeld ?_
              case h37 => intro u hSw; (clear hSw); go_simp; try with_reducible rfl
              try simp only [List.getElem_toArray]
              try simp only [List.getElem_cons_succ]
              try simp only [List.getElem_cons_zero]
              try simp only [Act.put]
              try simp only [List.setIfInBounds_toArray]
              try simp only [List.set]
              refine wpAnyH_ready (rs := [6]) (by kernel_rfl) (by simp) ?_
              refine AllReadyH.cons rfl (fun K hK => ?_) (AllReadyH.nil)
              rw [if_pos (by kernel_rfl)]
              go_wp2_with (go_at_call 8; refine (HA6.out U24 px cx sb hp hq).mono ?_; rintro e U25 ⟨pa, ca, rfl, gg, hr⟩)
              obtain ⟨lo6, hlo6⟩ : ∃ m, m = U24.heap.size := ⟨_, rfl⟩
              obtain ⟨hi6, hhi6⟩ : ∃ m, m = U25.heap.size := ⟨_, rfl⟩
              rw [← hlo6, ← hhi6] at hr
              have hhi : hi6 ≤ U25.heap.size := by omega
              have hne : hi6 ≤ ab ∨ ab + 1 ≤ lo6 := .inr (by omega)
              refine hK.out _ _ (hHeld.trans (gg.mono hHeld.size)) (fun hHeld => ?_)
              clear hK K
              have hO := hO.below gg hal
              have hal := Nat.lt_of_lt_of_le hal gg.size
              clear gg hp hq hlo6 hhi6
              try simp only [Act.put]
              try simp only [List.setIfInBounds_toArray]
              try simp only [List.set]
              refine wpAnyH_ready (rs := [8]) (by kernel_rfl) (by simp) ?_
              refine AllReadyH.cons rfl (fun K hK => ?_) AllReadyH.nil
              rw [if_pos (by kernel_rfl)]
              refine wp_store_rr _ _ ab 0 pa na ca rfl rfl rfl rfl hO (fun W9 b0 b1 T => ?_)
              have gT : Below wc.heap.size wc W9 := hHeld.trans (T.toBelow hHeld.size hab)
              have hra : Rs rwE 4 W9 pa (acL (afL cs) [y]) := (hr.turned T hne).reads
              clear T hr hO hal
              refine hK.out _ _ gT (fun hHeld => ?_)
              clear hK K
              try simp only [Act.put]
              try simp only [List.setIfInBounds_toArray]
              try simp only [List.set]
              refine wpAnyH_done (by kernel_rfl) ?_ _
              go_wp2_with fail
              go_meet
              case rel => exact ⟨ab, pa, ca, rfl, hHeld, b0, b1, hra⟩
        case rest =>
          obtain ⟨ab, pa, ca, rfl, gc, b0, b1, hra⟩ := hcut
          obtain ⟨hC, hRb, hRl, hRr, r1, gw⟩ := HF.out _ gc
          have hcon := implApplyChanges_any (some ⟨pb, 0, none⟩) pr (bfL cs) (fcL cs y) nb nr cb cr wc HNb.out HNr.out (by omega) (by omega) HSb.out HSr.out hRb hRr
          go_wp2_with (go_at_call 8; refine hcon.mono ?_)
          rintro e w8 hac
          obtain ⟨pd, cd, rfl, g8, hind⟩ := hac.form
          rw [HB.out.2.2] at hind
          rw [HB.out.2.1, HB.out.2.2, HNa.out]
          have hrd := hind.reads
          clear hcon hac hind
          go_upto_region 23 with (fail)
          generalize hY : World.alloc _ _ = Y8
          have gY : Below w8.heap.size w8 Y8 := by rw [← hY]; go_grown
          have d0 : Y8.cell? ⟨w8.heap.size, 0, none⟩ = some (.int .i64 0) := by rw [← hY]; simp [go_sem]
          have d1 : Y8.cell? ⟨w8.heap.size, 1, none⟩ = some (.slice pd na cd) := by rw [← hY]; simp [go_sem]
          have gX := g8.trans (gY.mono g8.size)
          generalize w8.heap.size = db at d0 d1 ⊢
          have hE : FfE w rb kb ab db pa pd pl pr na ca cd nr cr y cs (fcL cs y) (acL (afL cs) [y]) Y8 :=
            ⟨cell_up b0 gX, cell_up b1 gX, d0, d1, cell_up r1 gX, hC.below gX hC.lt, hra.below gX (Nat.le_refl _), hrd.below gY (Nat.le_refl _), hRl.below gX (Nat.le_refl _), hRr.below gX (Nat.le_refl _), gw.trans (gX.mono gw.size)⟩
          clear hY gY gX g8 d0 d1 b0 b1 r1 hC hra hrd hRl hRr hRb gw gc HF HB HD
          refine wp_region_held_drew (S := FfE w rb kb ab db pa pd pl pr na ca cd nr cr y cs (fcL cs y) (acL (afL cs) [y])) (by kernel_rfl) (hE.up (Below.refl _ _).drew) (fun hHeld => ?_)
          generalize Y8.drew = D at hHeld ⊢
          clear hE
          refine wpAnyH_take (i := 0) (v := ?v8) rfl (by kernel_rfl) (by kernel_rfl) (by kernel_rfl) (fun _ _ _ h => h) (Or.inl ⟨by kernel_rfl, ?h8⟩) hHeld ?_
          case h8 => intro u hSw; (obtain ⟨b0, b1, d0, d1, r1, ⟨c0, c1, c2, c3, c4, c5, c6, c7, c8, c9⟩, -⟩ := hSw); go_simp; try with_reducible rfl
          try simp only [List.getElem_toArray]
          try simp only [List.getElem_cons_succ]
          try simp only [List.getElem_cons_zero]
          try simp only [Act.put]
          try simp only [List.setIfInBounds_toArray]
          try simp only [List.set]
          refine wpAnyH_take (i := 1) (v := ?v9) rfl (by kernel_rfl) (by kernel_rfl) (by kernel_rfl) (fun _ _ _ h => h) (Or.inl ⟨by kernel_rfl, ?h9⟩) hHeld ?_
          case h9 => intro u hSw; (obtain ⟨b0, b1, d0, d1, r1, ⟨c0, c1, c2, c3, c4, c5, c6, c7, c8, c9⟩, -⟩ := hSw); go_simp; try with_reducible rfl
          try simp only [List.getElem_toArray]
          try simp only [List.getElem_cons_succ]
          try simp only [List.getElem_cons_zero]
          try simp only [Act.put]
          try simp only [List.setIfInBounds_toArray]
          try simp only [List.set]
          refine wpAnyH_take (i := 2) (v := ?v10) rfl (by kernel_rfl) (by kernel_rfl) (by kernel_rfl) (fun _ _ _ h => h) (Or.inl ⟨by kernel_rfl, ?h10⟩) hHeld ?_
          case h10 => intro u hSw; (obtain ⟨b0, b1, d0, d1, r1, ⟨c0, c1, c2, c3, c4, c5, c6, c7, c8, c9⟩, -⟩ := hSw); go_simp; try with_reducible rfl
          try simp only [List.getElem_toArray]
          try simp only [List.getElem_cons_succ]
          try simp only [List.getElem_cons_zero]
          try simp only [Act.put]
          try simp only [List.setIfInBounds_toArray]
          try simp only [List.set]
          refine wpAnyH_take (i := 3) (v := ?v11) rfl (by kernel_rfl) (by kernel_rfl) (by kernel_rfl) (fun _ _ _ h => h) (Or.inl ⟨by kernel_rfl, ?h11⟩) hHeld ?_
          case h11 => intro u hSw; (obtain ⟨b0, b1, d0, d1, r1, ⟨c0, c1, c2, c3, c4, c5, c6, c7, c8, c9⟩, -⟩ := hSw); go_simp; try with_reducible rfl
          try simp only [List.getElem_toArray]
          try simp only [List.getElem_cons_succ]
          try simp only [List.getElem_cons_zero]
          try simp only [Act.put]
          try simp only [List.setIfInBounds_toArray]
          try simp only [List.set]
          refine wpAnyH_take (i := 4) (v := ?v12) rfl (by kernel_rfl) (by kernel_rfl) (by kernel_rfl) (fun _ _ _ h => h) (Or.inl ⟨by kernel_rfl, ?h12⟩) hHeld ?_
          case h12 => intro u hSw; (obtain ⟨b0, b1, d0, d1, r1, ⟨c0, c1, c2, c3, c4, c5, c6, c7, c8, c9⟩, -⟩ := hSw); go_simp; try with_reducible rfl
          try simp only [List.getElem_toArray]
          try simp only [List.getElem_cons_succ]
          try simp only [List.getElem_cons_zero]
          try simp only [Act.put]
          try simp only [List.setIfInBounds_toArray]
          try simp only [List.set]
          refine wpAnyH_take (i := 5) (v := ?v13) rfl (by kernel_rfl) (by kernel_rfl) (by kernel_rfl) (fun _ _ _ h => h) (Or.inl ⟨by kernel_rfl, ?h13⟩) hHeld ?_
          case h13 => intro u hSw; (obtain ⟨b0, b1, d0, d1, r1, ⟨c0, c1, c2, c3, c4, c5, c6, c7, c8, c9⟩, -⟩ := hSw); go_simp; try with_reducible rfl
          try simp only [List.getElem_toArray]
          try simp only [List.getElem_cons_succ]
          try simp only [List.getElem_cons_zero]
          try simp only [Act.put]
          try simp only [List.setIfInBounds_toArray]
          try simp only [List.set]
          refine wpAnyH_take (i := 6) (v := ?v14) rfl (by kernel_rfl) (by kernel_rfl) (by kernel_rfl) (fun _ _ _ h => h) (Or.inl ⟨by kernel_rfl, ?h14⟩) hHeld ?_
          case h14 => intro u hSw; (obtain ⟨b0, b1, d0, d1, r1, ⟨c0, c1, c2, c3, c4, c5, c6, c7, c8, c9⟩, -⟩ := hSw); go_simp; try with_reducible rfl
          try simp only [List.getElem_toArray]
          try simp only [List.getElem_cons_succ]
          try simp only [List.getElem_cons_zero]
          try simp only [Act.put]
          try simp only [List.setIfInBounds_toArray]
          try simp only [List.set]
          refine wpAnyH_take (i := 7) (v := ?v15) rfl (by kernel_rfl) (by kernel_rfl) (by kernel_rfl) (fun _ _ _ h => h) (Or.inl ⟨by kernel_rfl, ?h15⟩) hHeld ?_
          case h15 => intro u hSw; (obtain ⟨b0, b1, d0, d1, r1, ⟨c0, c1, c2, c3, c4, c5, c6, c7, c8, c9⟩, -⟩ := hSw); go_simp; try with_reducible rfl
          try simp only [List.getElem_toArray]
          try simp only [List.getElem_cons_succ]
          try simp only [List.getElem_cons_zero]
          try simp only [Act.put]
          try simp only [List.setIfInBounds_toArray]
          try simp only [List.set]
          refine wpAnyH_take (i := 8) (v := ?v16) rfl (by kernel_rfl) (by kernel_rfl) (by kernel_rfl) (fun _ _ _ h => h) (Or.inl ⟨by kernel_rfl, ?h16⟩) hHeld ?_
          case h16 => intro u hSw; (obtain ⟨b0, b1, d0, d1, r1, ⟨c0, c1, c2, c3, c4, c5, c6, c7, c8, c9⟩, -⟩ := hSw); go_simp; try with_reducible rfl
          try simp only [List.getElem_toArray]
          try simp only [List.getElem_cons_succ]
          try simp only [List.getElem_cons_zero]
          try simp only [Act.put]
          try simp only [List.setIfInBounds_toArray]
          try simp only [List.set]
          refine wpAnyH_take (i := 9) (v := ?v17) rfl (by kernel_rfl) (by kernel_rfl) (by kernel_rfl) (fun _ _ _ h => h) (Or.inl ⟨by kernel_rfl, ?h17⟩) hHeld ?_
          case h17 => intro u hSw; (obtain ⟨b0, b1, d0, d1, r1, ⟨c0, c1, c2, c3, c4, c5, c6, c7, c8, c9⟩, -⟩ := hSw); go_simp; try with_reducible rfl
          try simp only [List.getElem_toArray]
          try simp only [List.getElem_cons_succ]
          try simp only [List.getElem_cons_zero]
          try simp only [Act.put]
          try simp only [List.setIfInBounds_toArray]
          try simp only [List.set]
          refine wpAnyH_take (i := 11) (v := ?v18) rfl (by kernel_rfl) (by kernel_rfl) (by kernel_rfl) (fun _ _ _ h => h) (Or.inl ⟨by kernel_rfl, ?h18⟩) hHeld ?_
          case h18 => intro u hSw; (obtain ⟨b0, b1, d0, d1, r1, ⟨c0, c1, c2, c3, c4, c5, c6, c7, c8, c9⟩, -⟩ := hSw); go_simp; try with_reducible rfl
          try simp only [List.getElem_toArray]
          try simp only [List.getElem_cons_succ]
          try simp only [List.getElem_cons_zero]
          try simp only [Act.put]
          try simp only [List.setIfInBounds_toArray]
          try simp only [List.set]
          refine wpAnyH_take (i := 10) (v := ?v19) rfl (by kernel_rfl) (by kernel_rfl) (by kernel_rfl) (fun _ _ _ h => h) (Or.inl ⟨by kernel_rfl, ?h19⟩) hHeld ?_
          case h19 => intro u hSw; (obtain ⟨b0, b1, d0, d1, r1, ⟨c0, c1, c2, c3, c4, c5, c6, c7, c8, c9⟩, -⟩ := hSw); go_simp; try with_reducible rfl
          try simp only [List.getElem_toArray]
          try simp only [List.getElem_cons_succ]
          try simp only [List.getElem_cons_zero]
          try simp only [Act.put]
          try simp only [List.setIfInBounds_toArray]
          try simp only [List.set]
          refine wpAnyH_take (i := 12) (v := ?v20) rfl (by kernel_rfl) (by kernel_rfl) (by kernel_rfl) (fun _ _ _ h => h) (Or.inl ⟨by kernel_rfl, ?h20⟩) hHeld ?_
          case h20 => intro u hSw; (obtain ⟨b0, b1, d0, d1, r1, ⟨c0, c1, c2, c3, c4, c5, c6, c7, c8, c9⟩, -⟩ := hSw); go_simp; try with_reducible rfl
          try simp only [List.getElem_toArray]
          try simp only [List.getElem_cons_succ]
          try simp only [List.getElem_cons_zero]
          try simp only [Act.put]
          try simp only [List.setIfInBounds_toArray]
          try simp only [List.set]
          refine wpAnyH_ready (rs := [13]) (by kernel_rfl) (by simp) ?_
          refine AllReadyH.cons rfl (fun K hK => ?_) AllReadyH.nil
          go_simp
          go_wp2_with (go_at_call 9; refine (lwRows_any pa pd (acL (afL cs) [y]) (acL (afL cs) [y]) na na ca cd true _ (by simp) HNa.out HNa.out (by omega) (by omega) hHeld.rA hHeld.rD).mono ?_; rintro e E1 ⟨rfl, gb1⟩)
          refine hK.out _ _ (hHeld.up gb1) (fun hHeld => ?_)
          clear hK K
          clear gb1
          try simp only [Act.put]
          try simp only [List.setIfInBounds_toArray]
          try simp only [List.set]
          refine wpAnyH_take (i := 14) (v := ?v21) rfl (by kernel_rfl) (by kernel_rfl) (by kernel_rfl) (fun _ _ _ h => h) (Or.inl ⟨by kernel_rfl, ?h21⟩) hHeld ?_
          case h21 => intro u hSw; (obtain ⟨b0, b1, d0, d1, r1, ⟨c0, c1, c2, c3, c4, c5, c6, c7, c8, c9⟩, -⟩ := hSw); go_simp; try with_reducible rfl
          try simp only [List.getElem_toArray]
          try simp only [List.getElem_cons_succ]
          try simp only [List.getElem_cons_zero]
          try simp only [Act.put]
          try simp only [List.setIfInBounds_toArray]
          try simp only [List.set]
          refine wpAnyH_take (i := 15) (v := ?v22) rfl (by kernel_rfl) (by kernel_rfl) (by kernel_rfl) (fun _ _ _ h => h) (Or.inl ⟨by kernel_rfl, ?h22⟩) hHeld ?_
          case h22 => intro u hSw; (obtain ⟨b0, b1, d0, d1, r1, ⟨c0, c1, c2, c3, c4, c5, c6, c7, c8, c9⟩, -⟩ := hSw); go_simp; try with_reducible rfl
          try simp only [List.getElem_toArray]
          try simp only [List.getElem_cons_succ]
          try simp only [List.getElem_cons_zero]
          try simp only [Act.put]
          try simp only [List.setIfInBounds_toArray]
          try simp only [List.set]
          refine wpAnyH_take (i := 16) (v := ?v23) rfl (by kernel_rfl) (by kernel_rfl) (by kernel_rfl) (fun _ _ _ h => h) (Or.inl ⟨by kernel_rfl, ?h23⟩) hHeld ?_
          case h23 => intro u hSw; (obtain ⟨b0, b1, d0, d1, r1, ⟨c0, c1, c2, c3, c4, c5, c6, c7, c8, c9⟩, -⟩ := hSw); go_simp; try with_reducible rfl
          try simp only [List.getElem_toArray]
          try simp only [List.getElem_cons_succ]
          try simp only [List.getElem_cons_zero]
          try simp only [Act.put]
          try simp only [List.setIfInBounds_toArray]
          try simp only [List.set]
          refine wpAnyH_take (i := 18) (v := ?v24) rfl (by kernel_rfl) (by kernel_rfl) (by kernel_rfl) (fun _ _ _ h => h) (Or.inl ⟨by kernel_rfl, ?h24⟩) hHeld ?_
          case h24 => intro u hSw; (obtain ⟨b0, b1, d0, d1, r1, ⟨c0, c1, c2, c3, c4, c5, c6, c7, c8, c9⟩, -⟩ := hSw); go_simp; try with_reducible rfl
          try simp only [List.getElem_toArray]
          try simp only [List.getElem_cons_succ]
          try simp only [List.getElem_cons_zero]
          try simp only [Act.put]
          try simp only [List.setIfInBounds_toArray]
          try simp only [List.set]
          refine wpAnyH_take (i := 19) (v := ?v25) rfl (by kernel_rfl) (by kernel_rfl) (by kernel_rfl) (fun _ _ _ h => h) (Or.inl ⟨by kernel_rfl, ?h25⟩) hHeld ?_
          case h25 => intro u hSw; (obtain ⟨b0, b1, d0, d1, r1, ⟨c0, c1, c2, c3, c4, c5, c6, c7, c8, c9⟩, -⟩ := hSw); go_simp; try with_reducible rfl
          try simp only [List.getElem_toArray]
          try simp only [List.getElem_cons_succ]
          try simp only [List.getElem_cons_zero]
          try simp only [Act.put]
          try simp only [List.setIfInBounds_toArray]
          try simp only [List.set]
          refine wpAnyH_take (i := 17) (v := ?v26) rfl (by kernel_rfl) (by kernel_rfl) (by kernel_rfl) (fun _ _ _ h => h) (Or.inl ⟨by kernel_rfl, ?h26⟩) hHeld ?_
          case h26 => intro u hSw; (obtain ⟨b0, b1, d0, d1, r1, ⟨c0, c1, c2, c3, c4, c5, c6, c7, c8, c9⟩, -⟩ := hSw); go_simp; try with_reducible rfl
          try simp only [List.getElem_toArray]
          try simp only [List.getElem_cons_succ]
          try simp only [List.getElem_cons_zero]
          try simp only [Act.put]
          try simp only [List.setIfInBounds_toArray]
          try simp only [List.set]
          refine wpAnyH_ready (rs := [20]) (by kernel_rfl) (by simp) ?_
          refine AllReadyH.cons rfl (fun K hK => ?_) AllReadyH.nil
          go_simp
          go_wp2_with (go_at_call 7; refine (specFoldChange_any pl cs nc cl y.was y.b.t y.b.k y.b.v y.b.s y.is y.a.t y.a.k y.a.v y.a.s _ HNc.out (by omega) HSm.out.1 HSm.out.2.1 HSm.out.2.2 hHeld.rL).mono ?_; rintro e E2 hfc2; have hfc2 : FcPost (fcQ cs y) (fcL cs y) _ _ _ := hfc2; obtain ⟨pe, ce, rfl, gb1, hine⟩ := hfc2.form; rw [HQ.out, HNr.out])
          refine hK.out _ _ (hHeld.up gb1) (fun hHeld => ?_)
          clear hK K
          clear gb1; have hre := hine.reads; clear hine
          try simp only [Act.put]
          try simp only [List.setIfInBounds_toArray]
          try simp only [List.set]
          refine wpAnyH_take (i := 21) (v := ?v27) rfl (by kernel_rfl) (by kernel_rfl) (by kernel_rfl) (fun _ _ _ h => h) (Or.inl ⟨by kernel_rfl, ?h27⟩) hHeld ?_
          case h27 => intro u hSw; (obtain ⟨b0, b1, d0, d1, r1, ⟨c0, c1, c2, c3, c4, c5, c6, c7, c8, c9⟩, -⟩ := hSw); go_simp; try with_reducible rfl
          try simp only [List.getElem_toArray]
          try simp only [List.getElem_cons_succ]
          try simp only [List.getElem_cons_zero]
          try simp only [Act.put]
          try simp only [List.setIfInBounds_toArray]
          try simp only [List.set]
          refine wpAnyH_ready (rs := [22]) (by kernel_rfl) (by simp) ?_
          refine AllReadyH.cons rfl (fun K hK => ?_) AllReadyH.nil
          go_simp
          go_wp2_with (go_at_call 10; refine (lwChanges_same pr pe (fcL cs y) nr cr ce _ HNr.out (by omega) hHeld.rR hre).mono ?_; rintro e E3 ⟨rfl, gb1⟩)
          refine hK.out _ _ (hHeld.up gb1) (fun hHeld => ?_)
          clear hK K
          clear gb1
          try simp only [Act.put]
          try simp only [List.setIfInBounds_toArray]
          try simp only [List.set]
          refine wpAnyH_take (i := 23) (v := ?v28) rfl (by kernel_rfl) (by kernel_rfl) (by kernel_rfl) (fun _ _ _ h => h) (Or.inl ⟨by kernel_rfl, ?h28⟩) hHeld ?_
          case h28 => intro u hSw; (obtain ⟨b0, b1, d0, d1, r1, ⟨c0, c1, c2, c3, c4, c5, c6, c7, c8, c9⟩, -⟩ := hSw); go_simp; try with_reducible rfl
          try simp only [List.getElem_toArray]
          try simp only [List.getElem_cons_succ]
          try simp only [List.getElem_cons_zero]
          try simp only [Act.put]
          try simp only [List.setIfInBounds_toArray]
          try simp only [List.set]
          refine wpAnyH_take (i := 24) (v := ?v29) rfl (by kernel_rfl) (by kernel_rfl) (by kernel_rfl) (fun _ _ _ h => h) (Or.inl ⟨by kernel_rfl, ?h29⟩) hHeld ?_
          case h29 => intro u hSw; (obtain ⟨b0, b1, d0, d1, r1, ⟨c0, c1, c2, c3, c4, c5, c6, c7, c8, c9⟩, -⟩ := hSw); go_simp; try with_reducible rfl
          try simp only [List.getElem_toArray]
          try simp only [List.getElem_cons_succ]
          try simp only [List.getElem_cons_zero]
          try simp only [Act.put]
          try simp only [List.setIfInBounds_toArray]
          try simp only [List.set]
          refine wpAnyH_done (by kernel_rfl) ?_ _
          go_wp2_with fail
          go_ret
          exact ⟨rfl, hHeld.g⟩

end Go.Proofs.Ytmbllmhpnopbdaa
