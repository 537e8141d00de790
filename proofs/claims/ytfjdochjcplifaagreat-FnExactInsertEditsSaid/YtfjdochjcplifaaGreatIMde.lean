/-
  The model's l7Delete and DeleteEdits.
-/
import Derived.Test.YtfjdochjcplifaaGreatIFnr

namespace Go.Proofs.YtfjdochjcplifaaGreat
open Go.RowKit
set_option linter.unusedVariables false

theorem HpS.out {n₀ : Nat} {X : World} {ob : Nat} {es : List (Int × List Int)} {ps : List (List Int)} {x1 : Option Addr} {k1 : Nat} {V1 : List Value} {x2 : Option Addr} {k2 : Nat} {V2 : List Value} {V : World} (h : HpS n₀ X ob es ps x1 k1 V1 x2 k2 V2 V) {rb m : Nat} (hr : rb < n₀) (hm : m ≤ n₀) :
    Ans m (((V.setCell ⟨rb, 0, none⟩ (.int .i64 0)).setCell ⟨rb, 1, none⟩ (.slice x1 es.length k1)).setCell ⟨rb, 2, none⟩ (.slice x2 ps.length k2)) (.slice x1 es.length k1) es V1 (.slice x2 ps.length k2) ps V2 := by
  have h1 : ∀ g, blkP (.slice x1 es.length k1) V1 g → some rb ≠ some g := fun g hg e => by have := (h.a.e.lt hg).1; cases e; omega
  have h2 : ∀ g, blkP (.slice x2 ps.length k2) V2 g → some rb ≠ some g := fun g hg e => by have := (h.a.p.lt hg).1; cases e; omega
  exact (((h.a.base hm).kept (grownOut V rb 0 _) h1 h2).kept (grownOut _ rb 1 _) h1 h2).kept (grownOut _ rb 2 _) h1 h2
theorem AePost.mk0 {es : List (Int × List Int)} {qs : List (List Int)} {q : Int} {es' : List (Int × List Int)} {qs' : List (List Int)} {v1 v2 : Value} {V1 V2 : List Value} {w w' : World} (hq : q = 0) (h1 : es = es') (h2 : qs = qs') (hg : Below w.heap.size w w') (hA : Ans w.heap.size w' v1 es' V1 v2 qs' V2) : AePost q es qs w (.returned (.agg #[.int .i64 0, v1, v2])) w' :=
  ⟨v1, V1, v2, V2, by rw [hq], hg, by rw [h1, h2]; exact hA⟩
theorem AePost.nil {es : List (Int × List Int)} {qs : List (List Int)} {q : Int} {w w' : World} (h1 : es = []) (h2 : qs = []) (hg : Below w.heap.size w w') : AePost q es qs w (.returned (.agg #[.int .i64 q, .slice none 0 0, .slice none 0 0])) w' :=
  ⟨_, [], _, [], rfl, hg, by rw [h1, h2]; exact ans_nil _ _⟩

/-- What is read of the cell that was found. -/
def SpH (b pn sn : Nat) (f cp cl : Int) (V : World) : Prop := V.cell? ⟨b, 0, none⟩ = some (.int .i64 (pn : Nat)) ∧ V.cell? ⟨b, 1, none⟩ = some (.int .i64 (sn : Nat)) ∧ V.cell? ⟨b, 3, none⟩ = some (.int .i64 f) ∧ V.cell? ⟨b, 4, none⟩ = some (.int .i64 cp) ∧ V.cell? ⟨b, 5, none⟩ = some (.int .i64 cl)
theorem SpH.below {b pn sn : Nat} {f cp cl : Int} {V V' : World} {B : Nat} (h : SpH b pn sn f cp cl V) (hb : Below B V V') (hB : b < B) : SpH b pn sn f cp cl V' :=
  ⟨(hb.cell (p := ⟨b, 0, none⟩) hB).trans h.1, (hb.cell (p := ⟨b, 1, none⟩) hB).trans h.2.1, (hb.cell (p := ⟨b, 3, none⟩) hB).trans h.2.2.1, (hb.cell (p := ⟨b, 4, none⟩) hB).trans h.2.2.2.1, (hb.cell (p := ⟨b, 5, none⟩) hB).trans h.2.2.2.2⟩

set_option maxRecDepth 20000 in
set_option maxHeartbeats 4000000 in
theorem l7Delete_any (a : Option Addr) (ps : List (List Int)) (n c b : Nat) (z : Spt) (pn sn : Nat) (zs : List Int) (w : World) (hn : ps.length = n) (h12 : n ≤ 12) (hp : PgOk ps) (hr : PgRdN w a ps) (hZ : FndAt ps z pn sn zs) (hs : SpH b pn sn z.c.f z.c.p z.c.l w) :
    Calls Tryz.prog 73 #[.slice a n c, .pointer (some ⟨b, 0, none⟩)] w fun e w' => AePost 0 (delR ps z).1 (delR ps z).2 w e w' := by
  have hbl : b < w.heap.size := World.block_lt_of_cell? w _ hs.1
  have hO := Rs3.new w
  have gY : Below w.heap.size w (w.alloc (.cells #[.int .i64 0, .slice none 0 0, .slice none 0 0] 31)) := by go_grown
  obtain ⟨Y, hY⟩ : ∃ Y, w.alloc (.cells #[.int .i64 0, .slice none 0 0, .slice none 0 0] 31) = Y := ⟨_, rfl⟩
  rw [hY] at hO gY
  have hwY : w.heap.size < Y.heap.size := World.block_lt_of_cell? Y _ hO.c0
  have HO : Hid (∀ V, Below Y.heap.size Y V → Rs3 V w.heap.size) := fun V hV => hO.below hV hwY
  have HSp : Hid (∀ V, Below Y.heap.size Y V → SpH b pn sn z.c.f z.c.p z.c.l V) := fun V hV => (hs.below gY hbl).below hV (by omega)
  have HG : Hid (∀ V, Below Y.heap.size Y V → Below w.heap.size w V) := fun V hV => gY.trans (hV.mono gY.size)
  have hst := l7Start_any a ps n c Y hn (by omega) hp (hr.below gY (Nat.le_refl _))
  have HZ : Hid (FndAt ps z pn sn zs) := hZ
  have HN : Hid (ps.length = n) := hn
  clear hO hs hr gY hZ hn
  go_enter Tryz.func73, Tryz.ntmps73
  go_upto_region 2 with (go_at_call 111; refine hst.mono ?_; rintro e w1 ⟨ob, x2, k2, V2, rfl, hS⟩; clear hst)
  have hS := hS.below (Below.refl _ w1).drew
  have hsp := HSp.out _ hS.g
  refine wp_region_held_drew (S := SpH b pn sn z.c.f z.c.p z.c.l) (by kernel_rfl) hsp (fun hHeld => ?_)
  clear hsp
  generalize w1.drew = V at hS hHeld ⊢
  refine wpAnyH_take (i := 0) (v := ?v1) rfl (by kernel_rfl) (by kernel_rfl) (by kernel_rfl) (fun _ _ _ h => h) (Or.inl ⟨by kernel_rfl, ?h1⟩) hHeld ?_
  case h1 => intro u hSw; obtain ⟨r0, r1, r3, r4, r5⟩ := hSw; (try dsimp only at r0 r1 r3 r4 r5); go_simp; try with_reducible rfl
  try simp only [List.getElem_toArray]
  try simp only [List.getElem_cons_succ]
  try simp only [List.getElem_cons_zero]
  try simp only [Act.put]
  try simp only [List.setIfInBounds_toArray]
  try simp only [List.set]
  refine wpAnyH_take (i := 1) (v := ?v2) rfl (by kernel_rfl) (by kernel_rfl) (by kernel_rfl) (fun _ _ _ h => h) (Or.inl ⟨by kernel_rfl, ?h2⟩) hHeld ?_
  case h2 => intro u hSw; obtain ⟨r0, r1, r3, r4, r5⟩ := hSw; (try dsimp only at r0 r1 r3 r4 r5); go_simp; try with_reducible rfl
  try simp only [List.getElem_toArray]
  try simp only [List.getElem_cons_succ]
  try simp only [List.getElem_cons_zero]
  try simp only [Act.put]
  try simp only [List.setIfInBounds_toArray]
  try simp only [List.set]
  refine wpAnyH_take (i := 2) (v := ?v3) rfl (by kernel_rfl) (by kernel_rfl) (by kernel_rfl) (fun _ _ _ h => h) (Or.inl ⟨by kernel_rfl, ?h3⟩) hHeld ?_
  case h3 => intro u hSw; obtain ⟨r0, r1, r3, r4, r5⟩ := hSw; (try dsimp only at r0 r1 r3 r4 r5); go_simp; try with_reducible rfl
  try simp only [List.getElem_toArray]
  try simp only [List.getElem_cons_succ]
  try simp only [List.getElem_cons_zero]
  try simp only [Act.put]
  try simp only [List.setIfInBounds_toArray]
  try simp only [List.set]
  refine wpAnyH_take (i := 3) (v := ?v4) rfl (by kernel_rfl) (by kernel_rfl) (by kernel_rfl) (fun _ _ _ h => h) (Or.inl ⟨by kernel_rfl, ?h4⟩) hHeld ?_
  case h4 => intro u hSw; obtain ⟨r0, r1, r3, r4, r5⟩ := hSw; (try dsimp only at r0 r1 r3 r4 r5); go_simp; try with_reducible rfl
  try simp only [List.getElem_toArray]
  try simp only [List.getElem_cons_succ]
  try simp only [List.getElem_cons_zero]
  try simp only [Act.put]
  try simp only [List.setIfInBounds_toArray]
  try simp only [List.set]
  refine wpAnyH_take (i := 4) (v := ?v5) rfl (by kernel_rfl) (by kernel_rfl) (by kernel_rfl) (fun _ _ _ h => h) (Or.inl ⟨by kernel_rfl, ?h5⟩) hHeld ?_
  case h5 => intro u hSw; obtain ⟨r0, r1, r3, r4, r5⟩ := hSw; (try dsimp only at r0 r1 r3 r4 r5); go_simp; try with_reducible rfl
  try simp only [List.getElem_toArray]
  try simp only [List.getElem_cons_succ]
  try simp only [List.getElem_cons_zero]
  try simp only [Act.put]
  try simp only [List.setIfInBounds_toArray]
  try simp only [List.set]
  refine wpAnyH_take (i := 5) (v := ?v6) rfl (by kernel_rfl) (by kernel_rfl) (by kernel_rfl) (fun _ _ _ h => h) (Or.inl ⟨by kernel_rfl, ?h6⟩) hHeld ?_
  case h6 => intro u hSw; obtain ⟨r0, r1, r3, r4, r5⟩ := hSw; (try dsimp only at r0 r1 r3 r4 r5); go_simp; try with_reducible rfl
  try simp only [List.getElem_toArray]
  try simp only [List.getElem_cons_succ]
  try simp only [List.getElem_cons_zero]
  try simp only [Act.put]
  try simp only [List.setIfInBounds_toArray]
  try simp only [List.set]
  refine wpAnyH_take (i := 6) (v := ?v7) rfl (by kernel_rfl) (by kernel_rfl) (by kernel_rfl) (fun _ _ _ h => h) (Or.inl ⟨by kernel_rfl, ?h7⟩) hHeld ?_
  case h7 => intro u hSw; obtain ⟨r0, r1, r3, r4, r5⟩ := hSw; (try dsimp only at r0 r1 r3 r4 r5); go_simp; try with_reducible rfl
  try simp only [List.getElem_toArray]
  try simp only [List.getElem_cons_succ]
  try simp only [List.getElem_cons_zero]
  try simp only [Act.put]
  try simp only [List.setIfInBounds_toArray]
  try simp only [List.set]
  refine wpAnyH_take (i := 7) (v := ?v8) rfl (by kernel_rfl) (by kernel_rfl) (by kernel_rfl) (fun _ _ _ h => h) (Or.inl ⟨by kernel_rfl, ?h8⟩) hHeld ?_
  case h8 => intro u hSw; obtain ⟨r0, r1, r3, r4, r5⟩ := hSw; (try dsimp only at r0 r1 r3 r4 r5); go_simp; try with_reducible rfl
  try simp only [List.getElem_toArray]
  try simp only [List.getElem_cons_succ]
  try simp only [List.getElem_cons_zero]
  try simp only [Act.put]
  try simp only [List.setIfInBounds_toArray]
  try simp only [List.set]
  refine wpAnyH_take (i := 8) (v := ?v9) rfl (by kernel_rfl) (by kernel_rfl) (by kernel_rfl) (fun _ _ _ h => h) (Or.inl ⟨by kernel_rfl, ?h9⟩) hHeld ?_
  case h9 => intro u hSw; obtain ⟨r0, r1, r3, r4, r5⟩ := hSw; (try dsimp only at r0 r1 r3 r4 r5); go_simp; try with_reducible rfl
  try simp only [List.getElem_toArray]
  try simp only [List.getElem_cons_succ]
  try simp only [List.getElem_cons_zero]
  try simp only [Act.put]
  try simp only [List.setIfInBounds_toArray]
  try simp only [List.set]
  refine wpAnyH_ready (rs := [9]) (by kernel_rfl) (by simp) ?_
  refine AllReadyH.cons rfl (fun K hK => ?_) AllReadyH.nil
  have hcon := l7Drop_any Y.heap.size Y ob [] ps none 0 [] x2 k2 V2 pn sn zs V hS HZ.out.c.at' HZ.out.c.ok HZ.out.c.has HZ.out.c.small (by rw [HN.out]; exact h12) (by simp)
  go_simp
  go_wp2_with (go_at_call 133; refine hcon.mono ?_; rintro e w2 ⟨rfl, hR⟩)
  obtain ⟨x1, k1, V1, x2, k2, V2', hS⟩ := hR
  refine hK.out _ _ (HSp.out _ hS.g) (fun hHeld => ?_)
  clear hK K hcon hHeld
  try simp only [Act.put]
  try simp only [List.setIfInBounds_toArray]
  try simp only [List.set]
  refine wpAnyH_done (by kernel_rfl) ?_ _
  obtain ⟨d0, d1, d3, d4, d5⟩ := HSp.out _ hS.g
  rcases HZ.out.f2 with hf | hf
  · have HE := HZ.out.row hf
    have df : (z.c.f == 1) = false := by rw [hf]; rfl
    have HEe : Hid (delR ps z = ([] ++ [((pn : Int), drpP zs sn)], ps.set pn (drpP zs sn))) := HE
    generalize ps.set pn (drpP zs sn) = cur at hS HEe
    generalize [] ++ [((pn : Int), drpP zs sn)] = es at hS HEe
    have hc1 := l7Done_any ob x1 x2 es.length k1 cur.length k2 w2 hS.o
    have HS : Hid _ := hS
    clear hS HE hf
    go_wp2_with (go_at_call 114; refine hc1.mono ?_)
    rintro e w4 ⟨rfl, g4⟩
    have hS := HS.out.below g4
    have hg := HG.out _ hS.g
    have hgs := hg.size
    have HA : Hid _ := hS.out (rb := w.heap.size) hwY (Nat.le_of_lt hwY)
    obtain ⟨c0, c1, c2, f0, f1, f2⟩ := HO.out _ hS.g
    clear hS HS hc1 g4 d0 d1 d3 d4 d5 df
    go_wp2_with fail
    refine bodyPost_ret (v := .agg #[.int .i64 0, .slice x1 es.length k1, .slice x2 cur.length k2]) (by simp [results, Tryz.results73, go_sem, *]) rfl ?_
    refine AePost.mk0 rfl ?_ ?_ ?_ HA.out
    · rw [HEe.out]
    · rw [HEe.out]
    · go_grown
  · obtain ⟨pm, sm, ys, ep, el, _, hcm, HE⟩ := HZ.out.two hf
    have df : (z.c.f == 1) = true := by rw [hf]; rfl
    have HEe : Hid (delR ps z = (([] ++ [((pn : Int), drpP zs sn)]) ++ [((pm : Int), drpP ys sm)], (ps.set pn (drpP zs sn)).set pm (drpP ys sm))) := HE
    rw [ep] at d4
    rw [el] at d5
    have HSq : Hid (∀ V, Below Y.heap.size Y V → V.cell? ⟨b, 4, none⟩ = some (.int .i64 (pm : Nat)) ∧ V.cell? ⟨b, 5, none⟩ = some (.int .i64 (sm : Nat))) := fun V hV => by
      have h := HSp.out V hV
      rw [ep, el] at h
      exact ⟨h.2.2.2.1, h.2.2.2.2⟩
    have HC : Hid (CelIn (ps.set pn (drpP zs sn)) pm sm ys) := hcm
    have hl2 : (ps.set pn (drpP zs sn)).length ≤ 12 := by rw [List.length_set, HN.out]; exact h12
    generalize ps.set pn (drpP zs sn) = cur at hS HC HEe hl2
    generalize hes : [] ++ [((pn : Int), drpP zs sn)] = es at hS HEe
    have hel : es.length ≤ 1000 := by rw [← hes]; simp
    clear hes hcm HE hf ep el
    go_upto_region 4 with (fail)
    clear d0 d1 d3 d4 d5 df
    have hS := hS.below (Below.refl _ w2).drew
    refine wp_region_held_drew (S := fun V => V.cell? ⟨b, 4, none⟩ = some (.int .i64 (pm : Nat)) ∧ V.cell? ⟨b, 5, none⟩ = some (.int .i64 (sm : Nat))) (by kernel_rfl) (HSq.out _ hS.g) (fun hHeld => ?_)
    generalize w2.drew = V at hS hHeld ⊢
    refine wpAnyH_take (i := 0) (v := ?v10) rfl (by kernel_rfl) (by kernel_rfl) (by kernel_rfl) (fun _ _ _ h => h) (Or.inl ⟨by kernel_rfl, ?h10⟩) hHeld ?_
    case h10 => intro u hSw; obtain ⟨r4, r5⟩ := hSw; (try dsimp only at r4 r5); go_simp; try with_reducible rfl
    try simp only [List.getElem_toArray]
    try simp only [List.getElem_cons_succ]
    try simp only [List.getElem_cons_zero]
    try simp only [Act.put]
    try simp only [List.setIfInBounds_toArray]
    try simp only [List.set]
    refine wpAnyH_take (i := 1) (v := ?v11) rfl (by kernel_rfl) (by kernel_rfl) (by kernel_rfl) (fun _ _ _ h => h) (Or.inl ⟨by kernel_rfl, ?h11⟩) hHeld ?_
    case h11 => intro u hSw; obtain ⟨r4, r5⟩ := hSw; (try dsimp only at r4 r5); go_simp; try with_reducible rfl
    try simp only [List.getElem_toArray]
    try simp only [List.getElem_cons_succ]
    try simp only [List.getElem_cons_zero]
    try simp only [Act.put]
    try simp only [List.setIfInBounds_toArray]
    try simp only [List.set]
    refine wpAnyH_take (i := 2) (v := ?v12) rfl (by kernel_rfl) (by kernel_rfl) (by kernel_rfl) (fun _ _ _ h => h) (Or.inl ⟨by kernel_rfl, ?h12⟩) hHeld ?_
    case h12 => intro u hSw; obtain ⟨r4, r5⟩ := hSw; (try dsimp only at r4 r5); go_simp; try with_reducible rfl
    try simp only [List.getElem_toArray]
    try simp only [List.getElem_cons_succ]
    try simp only [List.getElem_cons_zero]
    try simp only [Act.put]
    try simp only [List.setIfInBounds_toArray]
    try simp only [List.set]
    refine wpAnyH_take (i := 3) (v := ?v13) rfl (by kernel_rfl) (by kernel_rfl) (by kernel_rfl) (fun _ _ _ h => h) (Or.inl ⟨by kernel_rfl, ?h13⟩) hHeld ?_
    case h13 => intro u hSw; obtain ⟨r4, r5⟩ := hSw; (try dsimp only at r4 r5); go_simp; try with_reducible rfl
    try simp only [List.getElem_toArray]
    try simp only [List.getElem_cons_succ]
    try simp only [List.getElem_cons_zero]
    try simp only [Act.put]
    try simp only [List.setIfInBounds_toArray]
    try simp only [List.set]
    refine wpAnyH_take (i := 4) (v := ?v14) rfl (by kernel_rfl) (by kernel_rfl) (by kernel_rfl) (fun _ _ _ h => h) (Or.inl ⟨by kernel_rfl, ?h14⟩) hHeld ?_
    case h14 => intro u hSw; obtain ⟨r4, r5⟩ := hSw; (try dsimp only at r4 r5); go_simp; try with_reducible rfl
    try simp only [List.getElem_toArray]
    try simp only [List.getElem_cons_succ]
    try simp only [List.getElem_cons_zero]
    try simp only [Act.put]
    try simp only [List.setIfInBounds_toArray]
    try simp only [List.set]
    refine wpAnyH_take (i := 5) (v := ?v15) rfl (by kernel_rfl) (by kernel_rfl) (by kernel_rfl) (fun _ _ _ h => h) (Or.inl ⟨by kernel_rfl, ?h15⟩) hHeld ?_
    case h15 => intro u hSw; obtain ⟨r4, r5⟩ := hSw; (try dsimp only at r4 r5); go_simp; try with_reducible rfl
    try simp only [List.getElem_toArray]
    try simp only [List.getElem_cons_succ]
    try simp only [List.getElem_cons_zero]
    try simp only [Act.put]
    try simp only [List.setIfInBounds_toArray]
    try simp only [List.set]
    refine wpAnyH_take (i := 6) (v := ?v16) rfl (by kernel_rfl) (by kernel_rfl) (by kernel_rfl) (fun _ _ _ h => h) (Or.inl ⟨by kernel_rfl, ?h16⟩) hHeld ?_
    case h16 => intro u hSw; obtain ⟨r4, r5⟩ := hSw; (try dsimp only at r4 r5); go_simp; try with_reducible rfl
    try simp only [List.getElem_toArray]
    try simp only [List.getElem_cons_succ]
    try simp only [List.getElem_cons_zero]
    try simp only [Act.put]
    try simp only [List.setIfInBounds_toArray]
    try simp only [List.set]
    refine wpAnyH_take (i := 7) (v := ?v17) rfl (by kernel_rfl) (by kernel_rfl) (by kernel_rfl) (fun _ _ _ h => h) (Or.inl ⟨by kernel_rfl, ?h17⟩) hHeld ?_
    case h17 => intro u hSw; obtain ⟨r4, r5⟩ := hSw; (try dsimp only at r4 r5); go_simp; try with_reducible rfl
    try simp only [List.getElem_toArray]
    try simp only [List.getElem_cons_succ]
    try simp only [List.getElem_cons_zero]
    try simp only [Act.put]
    try simp only [List.setIfInBounds_toArray]
    try simp only [List.set]
    refine wpAnyH_take (i := 8) (v := ?v18) rfl (by kernel_rfl) (by kernel_rfl) (by kernel_rfl) (fun _ _ _ h => h) (Or.inl ⟨by kernel_rfl, ?h18⟩) hHeld ?_
    case h18 => intro u hSw; obtain ⟨r4, r5⟩ := hSw; (try dsimp only at r4 r5); go_simp; try with_reducible rfl
    try simp only [List.getElem_toArray]
    try simp only [List.getElem_cons_succ]
    try simp only [List.getElem_cons_zero]
    try simp only [Act.put]
    try simp only [List.setIfInBounds_toArray]
    try simp only [List.set]
    refine wpAnyH_take (i := 9) (v := ?v19) rfl (by kernel_rfl) (by kernel_rfl) (by kernel_rfl) (fun _ _ _ h => h) (Or.inl ⟨by kernel_rfl, ?h19⟩) hHeld ?_
    case h19 => intro u hSw; obtain ⟨r4, r5⟩ := hSw; (try dsimp only at r4 r5); go_simp; try with_reducible rfl
    try simp only [List.getElem_toArray]
    try simp only [List.getElem_cons_succ]
    try simp only [List.getElem_cons_zero]
    try simp only [Act.put]
    try simp only [List.setIfInBounds_toArray]
    try simp only [List.set]
    refine wpAnyH_take (i := 10) (v := ?v20) rfl (by kernel_rfl) (by kernel_rfl) (by kernel_rfl) (fun _ _ _ h => h) (Or.inl ⟨by kernel_rfl, ?h20⟩) hHeld ?_
    case h20 => intro u hSw; obtain ⟨r4, r5⟩ := hSw; (try dsimp only at r4 r5); go_simp; try with_reducible rfl
    try simp only [List.getElem_toArray]
    try simp only [List.getElem_cons_succ]
    try simp only [List.getElem_cons_zero]
    try simp only [Act.put]
    try simp only [List.setIfInBounds_toArray]
    try simp only [List.set]
    refine wpAnyH_ready (rs := [11]) (by kernel_rfl) (by simp) ?_
    refine AllReadyH.cons rfl (fun K hK => ?_) AllReadyH.nil
    have hcon := l7Drop_any Y.heap.size Y ob es cur x1 k1 V1 x2 k2 V2' pm sm ys V hS HC.out.at' HC.out.ok HC.out.has HC.out.small hl2 hel
    go_simp
    go_wp2_with (go_at_call 133; refine hcon.mono ?_; rintro e w3 ⟨rfl, hR⟩)
    obtain ⟨x1, k1, V1, x2, k2, V3', hS⟩ := hR
    refine hK.out _ _ (HSq.out _ hS.g) (fun hHeld => ?_)
    clear hK K hcon hHeld
    try simp only [Act.put]
    try simp only [List.setIfInBounds_toArray]
    try simp only [List.set]
    refine wpAnyH_done (by kernel_rfl) ?_ _
    generalize cur.set pm (drpP ys sm) = cur2 at hS HEe
    generalize es ++ [((pm : Int), drpP ys sm)] = es2 at hS HEe
    have hc1 := l7Done_any ob x1 x2 es2.length k1 cur2.length k2 w3 hS.o
    have HS : Hid _ := hS
    clear hS
    go_wp2_with (go_at_call 114; refine hc1.mono ?_)
    rintro e w4 ⟨rfl, g4⟩
    have hS := HS.out.below g4
    have hg := HG.out _ hS.g
    have hgs := hg.size
    have HA : Hid _ := hS.out (rb := w.heap.size) hwY (Nat.le_of_lt hwY)
    obtain ⟨c0, c1, c2, f0, f1, f2⟩ := HO.out _ hS.g
    clear hS HS hc1 g4
    go_wp2_with fail
    refine bodyPost_ret (v := .agg #[.int .i64 0, .slice x1 es2.length k1, .slice x2 cur2.length k2]) (by simp [results, Tryz.results73, go_sem, *]) rfl ?_
    refine AePost.mk0 rfl ?_ ?_ ?_ HA.out
    · rw [HEe.out]
    · rw [HEe.out]
    · go_grown


end Go.Proofs.YtfjdochjcplifaaGreat
