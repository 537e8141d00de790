/-
  The contract of runsIn over what reads spans of its own between two rounds.
-/
import Derived.Test.YtpoccjlngbdjlaaQRin

namespace Go.Proofs.Ytpoccjlngbdjlaa
open Go.RowKit Go.Shelf
set_option linter.unusedVariables false

/-- Spans in memory stay as they were. -/
def Keeps79 (W W' : World) : Prop := ∀ (y : Nat) (c : Array Value) (fr : Nat × Nat), W.heap[y]? = some (Obj.cells c 79 fr) → W'.heap[y]? = W.heap[y]?
def Kp79 (n₀ : Nat) (W W' : World) : Prop := Below n₀ W W' ∧ Keeps79 W W'
theorem keeps79_below {W W' : World} (h : Below W.heap.size W W') : Keeps79 W W' := fun y c fr hy => h.block y (Array.getElem?_eq_some_iff.1 hy).1
theorem kp79_t {n₀ : Nat} {A B C : World} (h : Kp79 n₀ A B) (k : Kp79 n₀ B C) : Kp79 n₀ A C := ⟨h.1.trans k.1, fun y c fr hy => by
  have h1 := h.2 y c fr hy
  exact (k.2 y c fr (h1.trans hy)).trans h1⟩
theorem kp79_b {n₀ : Nat} {w : World} (hn : n₀ ≤ w.heap.size) (W : World) (l : Nat) (o o' : Obj) (hl : w.heap.size ≤ l) (h : W.heap[l]? = some o) (hc : o.isCells = false) (hw : o.isWalk = false) : Kp79 n₀ W (W.putObj l o') :=
  ⟨belowK_b hn W l o o' hl h hc hw, fun y c fr hy => World.putObj_heap_other (fun e => by rw [e, h] at hy; cases hy; cases hc)⟩

set_option maxRecDepth 100000 in
set_option maxHeartbeats 4000000 in
theorem runsIn_keeps (gf : Nat) (lb : Array Value) (zs : List Int) (xs : List Sp) (w : World) (hz : zs.length = 64) (hx : xs.length ≤ 64)
    (hgf : ∀ args w, (callFunc gf args).run Try.prog w = .ok (.enter gf args) w)
    (hseq : ∀ W, Below w.heap.size w W → SeqStopsK Fence.wide 9 Try.prog gf lb spE (Kp79 w.heap.size) (fun ys => ys = xs) (fun pre => pre <+: xs) xs.length W) :
    Calls Try.prog 36 #[.agg (pgC zs), .func (.func gf) #[] lb] w fun e w' => ∃ a c A C F, e = .returned (.slice a xs.length c) ∧ Below w.heap.size w w' ∧ OwnS w.heap.size w'.heap.size w' a xs.length (spP xs) A C (spZ zs xs) F := by
  obtain ⟨X, hX, hA, g⟩ := boxed zs w hz
  refine (callsIn_wide (n := 10)).1 ?_
  refine callsIn_of_wp_marks Try.func36 rfl trivial ?_ rfl
  simp only [Try.ntmps36, List.size_toArray, List.length_cons, List.length_nil, Nat.reduceAdd, Nat.reduceSub, Array.replicate_succ, Array.replicate_zero, List.push_toArray, List.append_toArray, List.nil_append, List.cons_append]
  refine wpIn_seq_k fun K hK => ?_
  refine wpIn_wide.2 ?_
  go_wp2_with fail
  have hXs := hA.lt
  refine wpIn_seq_k fun K1 hK1 => ?_
  refine wpIn_wide.2 ?_
  go_wp2_with fail
  generalize hV : World.alloc X _ = V
  have bV : Boxed V X.heap.size 26 (.slice none 0 0) := by rw [← hV]; exact Boxed.new X 26 (.slice none 0 0)
  have gV : Below X.heap.size X V := by rw [← hV]; exact (Below.refl _ _).alloc (Nat.le_refl _) _
  have hAV := hA.grown gV
  have gw : Below w.heap.size w V := g.trans (gV.mono g.size)
  have hXw := g.size
  clear hV gV hA g hX
  generalize X.heap.size = B at bV hXs hXw
  refine wpIn_seq_k fun K2 hK2 => ?_
  refine wpIn_seq_k fun K3 hK3 => ?_
  refine wpIn_wide.2 ?_
  go_wp2_with fail
  refine wpIn_block ?_
  refine wpIn_rangeFunc_ownH (n := 10) rfl (by omega) (gf := gf) (lb := lb) rfl trivial hgf (hseq V gw) kp79_t (kp79_b gw.size) (Below.refl _ _) (fun _ => rfl)
    (RinI w B w.heap.size zs) (fun _ _ _ => False) (rinI_own w B w.heap.size zs (by have := bV.lt; omega)) (fun _ _ _ _ _ hs _ _ => hs) ⟨⟨_, fun _ => 0, fun _ => 0, bV, Blt.nil _ _ _ _ _ _, fun i hi => absurd hi (Nat.not_lt_zero _)⟩, hAV, gw⟩
    (fun x a' W => ∃ Bx, 0 ≤ Bx ∧ W.heap[Bx]? = some (.cells #[.int .u64 (x.1.1 : Nat), .int .u64 (x.1.2 : Nat)] 79 (0, 0)) ∧ a' = { tmps := #[.agg (pgC zs), .func (.func gf) #[] lb, .pointer (some ⟨w.heap.size, 0, none⟩), undef, .slice none 0 0, .pointer (some ⟨B, 0, none⟩), .pointer (some ⟨Bx, 0, none⟩), undef, .func (.func gf) #[] lb, .agg #[.int .u64 (x.1.1 : Nat), .int .u64 (x.1.2 : Nat)], undef, undef, undef, undef, undef, undef, undef, undef, undef, undef, undef, undef, undef, undef, undef, undef, undef, undef, undef], defers := [] })
    (fun x a' => spanBox_own V.heap.size _) ?assign ?body ?done ?stop
  case assign =>
    rintro l pre x W K' hi hK'
    refine roundRegion (fun h => by obtain ⟨_, _, h⟩ := h; exact h) (by kernel_rfl) ?_
    obtain ⟨⟨v, C, F, hv, hb, hn⟩, hA, g⟩ := hi
    have gA : Below W.heap.size W (W.alloc (.cells #[.int .u64 (x.1.1 : Nat), .int .u64 (x.1.2 : Nat)] 79)) := (Below.refl _ W).alloc (Nat.le_refl _) _
    simp only [spE]
    go_wp2_with fail
    exact hK' _ _ ((KeepsOthers.alloc _ _).from _) ⟨gA.mono g.size, keeps79_below gA⟩ ⟨⟨v, C, F, hv.alloc _, hb.below gA, hn⟩, hA.grown gA, g.trans (gA.mono g.size)⟩ ⟨W.heap.size, Nat.zero_le _, World.alloc_heap_new W _, rfl⟩
  case body =>
    rintro l pre x a' W hl hr ⟨⟨v, C, F, hv, hbl, hn⟩, hA, g⟩ ⟨Bx, hBx, hbx, rfl⟩ hlt
    obtain ⟨pp, hpp⟩ : ∃ pp, pp = x.1.1 := ⟨_, rfl⟩
    obtain ⟨m, hmm⟩ : ∃ m, m = x.1.2 := ⟨_, rfl⟩
    obtain ⟨hm1, hpm⟩ := x.2
    rw [← hpp] at hpm hbx ⊢
    rw [← hmm] at hm1 hpm hbx ⊢
    have HX : Hid (spP (pre ++ [x]) pre.length = (pp : Nat) ∧ spZ zs (pre ++ [x]) pre.length = (zs.drop pp).take m) := ⟨by rw [spP_eq, hpp], by rw [spZ_eq, hpp, hmm]⟩
    clear hpp hmm
    obtain ⟨i0, hi, hz0, hz1, hz2⟩ := info5
    obtain ⟨i5, hi5, hz50, hz51, hz52⟩ := info35
    have b0 : W.cell? ⟨Bx, 0, none⟩ = some (.int .u64 (pp : Nat)) := by simp [World.cell?, hbx]
    have b1 : W.cell? ⟨Bx, 1, none⟩ = some (.int .u64 (m : Nat)) := by simp [World.cell?, hbx]
    have hBxW : Bx < W.heap.size := World.block_lt_of_cell? W _ b0
    have hwW : w.heap.size < W.heap.size := hA.lt
    have hlen : pre.length < 64 := by omega
    refine wpIn_block ?_
    refine wpIn_seq_k fun K4 hK4 => ?_
    refine roundRegion (letsOut_then (letsOut_block (fun h => by obtain ⟨_, _, h⟩ := h; exact h))) (by kernel_rfl) ?_
    go_wp2_with (at_make; refine wpList_make_full _ rfl _ _ 22 rfl W.heap.size 5 i0 (.int .u8 0) 1 Try.underlying22 hi hz0 hz1 .u64 .u64 _ _ m rfl rfl rfl rfl ?c1 ?c2 (Nat.le_refl _) ?_)
    case c1 => rw [hz2]; omega
    case c2 => unfold maxLen; omega
    intro w1 hown hg
    have g1 : Below W.heap.size W w1 := Below.grown (Below.refl _ _) hg (Nat.le_refl _) (fun k hk => by cases hk)
    have hrow1 : Row5 w1 W.heap.size m := row5_of hown
    have hlt1 : W.heap.size < w1.heap.size := hrow1.lt
    clear hown hg hi hz0 hz1 hz2
    go_wp2_with fail
    refine wpIn_seq_k fun K5 hK5 => ?_
    have s0 := (g1.cell (p := ⟨Bx, 0, none⟩) hBxW).trans b0
    have s1 := (g1.cell (p := ⟨Bx, 1, none⟩) hBxW).trans b1
    have hA1 := hA.grown g1
    obtain ⟨q, hq⟩ : ∃ q, q = pp + m := ⟨_, rfl⟩
    have HPM : Hid (pp + m = q) := hq.symm
    have hq64 : (q : Int) ≤ 64 := by omega
    have hpq : (pp : Int) ≤ (q : Int) := by omega
    have hql : q - pp = m := by omega
    have hp64 : ¬ (64 = pp) := by omega
    have HCL : Hid (((zs.drop pp).take m).length = m) := by show _ = _; rw [List.length_take, List.length_drop, hz]; omega
    clear hq
    refine roundDrawn (S := fun V' => V'.cell? ⟨Bx, 0, none⟩ = some (.int .u64 (pp : Nat)) ∧ V'.cell? ⟨Bx, 1, none⟩ = some (.int .u64 (m : Nat)) ∧ Arr V' w.heap.size zs) (letsOut_then (letsOut_block (fun h => by obtain ⟨_, _, h⟩ := h; exact h))) (by kernel_rfl) (by kernel_rfl) ⟨s0, s1, hA1.grown (Below.refl _ _).drew⟩ (fun hHeld => ?_)
    have hrow := hrow1.drew
    have gD : Below W.heap.size W w1.drew := g1.drew
    have hsD : W.heap.size < w1.drew.heap.size := hlt1
    generalize w1.drew = D at hHeld hrow gD hsD ⊢
    clear s0 s1 hA1 hrow1 g1 hlt1
    refine wpAnyH_take (i := 0) (v := .slice (some ⟨W.heap.size, 0, none⟩) m m) rfl (by kernel_rfl) (by kernel_rfl) (by kernel_rfl) (fun _ _ _ h => h) (Or.inl ⟨by kernel_rfl, fun u hSw => by (try dsimp only at hSw); go_simp; try with_reducible rfl⟩) hHeld ?_
    try simp only [List.getElem_toArray]
    try simp only [List.getElem_cons_succ]
    try simp only [List.getElem_cons_zero]
    try simp only [Act.put]
    try simp only [List.setIfInBounds_toArray]
    try simp only [List.set]
    refine wpAnyH_take (i := 1) (v := .pointer (some ⟨Bx, 0, none⟩)) rfl (by kernel_rfl) (by kernel_rfl) (by kernel_rfl) (fun _ _ _ h => h) (Or.inl ⟨by kernel_rfl, fun u hSw => by (try dsimp only at hSw); go_simp; try with_reducible rfl⟩) hHeld ?_
    try simp only [List.getElem_toArray]
    try simp only [List.getElem_cons_succ]
    try simp only [List.getElem_cons_zero]
    try simp only [Act.put]
    try simp only [List.setIfInBounds_toArray]
    try simp only [List.set]
    refine wpAnyH_take (i := 2) (v := .int .u64 (pp : Nat)) rfl (by kernel_rfl) (by kernel_rfl) (by kernel_rfl) (fun _ _ _ h => h) (Or.inl ⟨by kernel_rfl, fun u hSw => by (try dsimp only at hSw); go_simp; try with_reducible rfl⟩) hHeld ?_
    try simp only [List.getElem_toArray]
    try simp only [List.getElem_cons_succ]
    try simp only [List.getElem_cons_zero]
    try simp only [Act.put]
    try simp only [List.setIfInBounds_toArray]
    try simp only [List.set]
    refine wpAnyH_take (i := 3) (v := .agg #[.int .u64 (pp : Nat), .int .u64 (m : Nat)]) rfl (by kernel_rfl) (by kernel_rfl) (by kernel_rfl) (fun _ _ _ h => h) (Or.inl ⟨by kernel_rfl, fun u hSw => by (try dsimp only at hSw); go_simp; try with_reducible rfl⟩) hHeld ?_
    try simp only [List.getElem_toArray]
    try simp only [List.getElem_cons_succ]
    try simp only [List.getElem_cons_zero]
    try simp only [Act.put]
    try simp only [List.setIfInBounds_toArray]
    try simp only [List.set]
    refine wpAnyH_ready (rs := [4]) (by kernel_rfl) (by simp) ?_
    refine AllReadyH.cons rfl (fun K hK => ?_) AllReadyH.nil
    go_simp
    go_wp2_with (go_at_call 55; refine (spanEnd_any pp m _ (by omega) (by omega)).mono ?_; rintro e w' ⟨rfl, hb⟩; rw [HPM.out])
    refine hK.out _ _ (spKeep hHeld hb) (fun hHeld => ?_)
    clear hK K
    try simp only [Act.put]
    try simp only [List.setIfInBounds_toArray]
    try simp only [List.set]
    have hrow := hrow.grown hb
    have gD := gD.trans (hb.mono gD.size)
    have hsD : W.heap.size < w'.heap.size := Nat.lt_of_lt_of_le hsD hb.size
    clear hb
    refine wpAnyH_take (i := 5) (v := .slice (some ⟨w.heap.size, pp, none⟩) m (64 - pp)) rfl (by kernel_rfl) (by kernel_rfl) (by kernel_rfl) (fun _ _ _ h => h) (Or.inl ⟨by kernel_rfl, fun u hSw => by (try dsimp only at hSw); go_simp; try with_reducible rfl⟩) hHeld ?_
    try simp only [List.getElem_toArray]
    try simp only [List.getElem_cons_succ]
    try simp only [List.getElem_cons_zero]
    try simp only [Act.put]
    try simp only [List.setIfInBounds_toArray]
    try simp only [List.set]
    refine wpAnyH_ready (rs := [6]) (by kernel_rfl) (by simp) ?_
    refine AllReadyH.cons rfl (fun K hK => ?_) AllReadyH.nil
    rw [if_pos (by kernel_rfl)]
    refine wp_copyRow _ _ rfl W.heap.size m m m ⟨w.heap.size, pp, none⟩ (64 - pp) rfl rfl hrow ((zs.drop pp).take m) HCL.out (Nat.le_refl _) (reads_src (hHeld.2.2.cellReads pp m hpm)) ?_
    intro V' hrowV tV
    refine hK.out _ _ ⟨tV.cell hHeld.1 (.inl hBxW), tV.cell hHeld.2.1 (.inl hBxW), hHeld.2.2.turned tV (.inl hwW)⟩ (fun hHeld => ?_)
    clear hK K
    try simp only [Act.put]
    try simp only [List.setIfInBounds_toArray]
    try simp only [List.set]
    refine wpAnyH_done (by kernel_rfl) ?_ _

    refine hK5 _ _ ?_
    have gV' : Below W.heap.size W V' := gD.trans (tV.toBelow gD.size (Nat.le_refl _))
    have hVs : W.heap.size < V'.heap.size := Nat.lt_of_lt_of_le hsD tV.size
    have hBW := hv.lt
    have hv' : Boxed V' B 26 v := (gV'.block B hBW).trans hv
    have hbl' := hbl.below gV'
    obtain ⟨s0, s1, hA'⟩ := hHeld
    have hc := hv'.cell
    clear hrow gD hsD tV hA hK5
    have gT : ∀ o, Below V'.heap.size V' (V'.alloc o) := fun o => (Below.refl _ _).alloc (Nat.le_refl _) _
    have hown0 : ∀ k', v.ownBlock = some k' → k' < W.heap.size := fun k' e => (hbl.row.lt k' e).2
    obtain ⟨T, hT⟩ : ∃ T : Obj, T = .cells #[.int .i64 (pp : Nat), .slice (some ⟨W.heap.size, 0, none⟩) m m] 35 := ⟨_, rfl⟩
    refine roundRegion (letsOut_block (fun h => by obtain ⟨_, _, h⟩ := h; exact h)) (by kernel_rfl) ?_
    go_wp2_with (at_builtin; refine wpList_append_own _ rfl _ _ 26 rfl w.heap.size 35 i5 (.agg #[.int .i64 0, .slice none 0 0]) 2 32 Try.underlying26 hi5 hz50 hz51 hz52 rfl (by decide) _ _ _ rfl (hbl'.row.alloc _) ⟨V'.heap.size, 0, none⟩ 1 1 [.int .i64 (pp : Nat), .slice (some ⟨W.heap.size, 0, none⟩) m m] rfl rfl ?n1 ?n2 ?n3 ?n4 ?n5 ?_)
    case n1 =>
      intro j u hu
      match j, hu with
      | 0, hu => simp at hu; subst hu; simp [go_sem, Addr.add]
      | 1, hu => simp at hu; subst hu; simp [go_sem, Addr.add]
    case n2 =>
      intro u hu
      simp at hu
      rcases hu with rfl | rfl <;> rfl
    case n3 => unfold maxLen; omega
    case n4 => omega
    case n5 => simp; omega
    intro v' w6 hown' hgrow _
    obtain ⟨g', cap', rfl⟩ := ownsRow_succ hown'
    obtain ⟨hv1, hv2, hr2, hk2, hb2⟩ := hv'.appended (by decide) hbl'.row (by omega) (by omega) hown' hgrow
    have hc1 := hv1.cell
    have hf1 := hv1.frozen
    have hblF : Blt w.heap.size w6 (.slice (some ⟨g', 0, none⟩) (pre.length + 1) cap') (pre.length + 1) (spP (pre ++ [x])) (fun i => if i = pre.length then m else C i) (spZ zs (pre ++ [x])) (fun i => if i = pre.length then W.heap.size else F i) := by
      have hce : ∀ i, i < pre.length → spP pre i = spP (pre ++ [x]) i ∧ C i = (if i = pre.length then m else C i) ∧ spZ zs pre i = spZ zs (pre ++ [x]) i ∧ F i = (if i = pre.length then W.heap.size else F i) := fun i hi => ⟨(spP_lt pre x i hi).symm, by rw [if_neg (by omega)], (spZ_lt zs pre x i hi).symm, by rw [if_neg (by omega)]⟩
      refine ((hbl'.below (gT _)).congr hce).append (v' := .slice (some ⟨g', 0, none⟩) (pre.length + 1) cap') ?_ hgrow ?_ ?_ ?_ ?_ ?_ ?_
      · rw [← rcells_congr pre.length hce]
        simp only [if_true]
        rw [HX.out.1, HX.out.2, HCL.out]
        exact hown'
      · simp only [if_true]
        rw [HX.out.2]
        exact hrowV.below (gT _)
      · rw [HX.out.2]
        intro e
        have := HCL.out
        rw [e] at this
        simp at this
        omega
      · simp only [if_true]; omega
      · simp only [if_true]; simp; omega
      · intro i hi
        simp only [if_true, if_neg (show ¬ i = pre.length by omega)]
        exact (hbl.fr i hi).2
      · simp only [if_true]
        intro e
        have := hown0 _ e.symm
        omega
    go_wp2_with fail
    refine ⟨((keeps_below gV').trans hk2).from _, ⟨(gV'.mono (by omega)).trans hb2, fun y c0 fr0 hy0 => ?k79⟩, ⟨_, fun i => if i = pre.length then m else C i, fun i => if i = pre.length then W.heap.size else F i, hv2, ?_, ?_⟩, ?_, ?_⟩
    case k79 =>
      have hyl : y < W.heap.size := (Array.getElem?_eq_some_iff.1 hy0).1
      have hy1 : V'.heap[y]? = some (.cells c0 79 fr0) := (gV'.block y hyl).trans hy0
      have hyl1 : y < V'.heap.size := (Array.getElem?_eq_some_iff.1 hy1).1
      have hy2 : (V'.alloc (.cells #[.int .i64 (pp : Nat), .slice (some ⟨W.heap.size, 0, none⟩) m m] 35)).heap[y]? = some (.cells c0 79 fr0) := (Below.heap_alloc V' _ y hyl1).trans hy1
      have hne : some y ≠ v.ownBlock := by
        intro e
        rcases hbl'.row.2 with ⟨rfl, _⟩ | ⟨g0, cap, cur, rfl, _, hg, _⟩
        · cases e
        · simp only [Value.ownBlock, Option.some.injEq] at e
          rw [← e, hy1] at hg
          have h2 : (79 : TypeId) = 35 := by injection hg with hg; injection hg
          exact absurd h2 (by decide)
      have hy3 : w6.heap[y]? = some (.cells c0 79 fr0) := (hgrow.block y (Array.getElem?_eq_some_iff.1 hy2).1 hne).trans hy2
      have hyB : y ≠ B := by
        intro e
        rw [e, show w6.heap[B]? = _ from hv1] at hy3
        have h2 : (26 : TypeId) = 79 := by injection hy3 with hy3; injection hy3
        exact absurd h2 (by decide)
      rw [Below.heap_setCell _ _ _ _ (fun e => hyB e), hy3, hy0]
    · rw [List.length_append]
      refine hblF.set hv1 (by decide) (fun i hi => ?_) _
      by_cases e : i = pre.length
      · rw [if_pos e]; omega
      · rw [if_neg e]; exact hn i (by omega)
    · intro i hi
      rw [List.length_append] at hi
      simp only [List.length_cons, List.length_nil] at hi
      show (if i = pre.length then W.heap.size else F i) ≠ B
      by_cases e : i = pre.length
      · rw [if_pos e]; omega
      · rw [if_neg e]; exact hn i (by omega)
    · have hne : some w.heap.size ≠ v.ownBlock := arr_not_row hA' hbl'.row
      have hA6 : Arr w6 w.heap.size zs := by
        have h0 := hA'.alloc (.cells #[.int .i64 (pp : Nat), .slice (some ⟨W.heap.size, 0, none⟩) m m] 35)
        exact ⟨h0.len, (hgrow.block _ h0.lt hne).trans h0.row⟩
      refine hA6.other _ _ ?_
      intro e
      have h1 := hA6.row
      rw [← show B = w.heap.size from e, show w6.heap[B]? = _ from hv1] at h1
      have h2 : (26 : TypeId) = 58 := by injection h1 with h1; injection h1
      exact absurd h2 (by decide)
    · exact g.trans ((gV'.mono (by omega)).trans hb2)
  case done =>
    rintro D ys W hD rfl ⟨⟨v, C, F, hv, hbl, hn⟩, hA, g⟩ hKD
    have hc := hv.cell
    refine hK2 _ _ ?_
    refine wpIn_seq_k fun K7 hK7 => ?_
    refine wpIn_wide.2 ?_
    obtain ⟨a0, c0, rfl, ho⟩ := hbl.own
    go_wp2_with fail
    refine wpIn_ret ?_
    have hblF := hbl.kept (grownBy_putObj' W D (.deferred none)) (fun r e => by cases e; exact ⟨_, hKD, rfl⟩)
    obtain ⟨a1, c1, e1, ho1⟩ := hblF.own
    have hVD := gw.size
    refine ⟨by simp, .inl ⟨_, _, rfl, run_takeDeferred hKD, ?_⟩⟩
    refine ⟨_, results_tmp rfl _ _ _, a1, c1, _, C, F, by rw [← e1]; rfl, g.trans (belowK_b (w := w) (Nat.le_refl _) W D _ _ (by omega) hKD rfl rfl), ho1⟩
  case stop =>
    rintro D c pre W _ _ h _
    exact h.elim

end Go.Proofs.Ytpoccjlngbdjlaa
