/-
  Buffers copied and compared: toBuffer, toBufferS, toMiner, eqBuffer, eqBufferS, eqMiner.
-/
import Derived.Test.YtonngopnhpmjaaaECht

namespace Go.Proofs.Ytonngopnhpmjaaa
open Go.RowKit Go.Maps
set_option linter.unusedVariables false
set_option maxRecDepth 20000

set_option maxHeartbeats 4000000 in
theorem toBuffer_any (tx : Int) (p : Option Addr) (cs : List Chg) (l c : Nat) (w : World) (hl : cs.length = l) (hm : l ≤ 1048576) (hr : Rs chE 10 w p cs) :
    Calls Try.prog 112 #[.agg #[.int .i64 tx, .slice p l c]] w fun e w' => ∃ g : Nat, e = .returned (.agg #[.int .i64 tx, .slice (some ⟨g, 0, none⟩) l l]) ∧ Below w.heap.size w w' ∧ SlIn chE 10 w.heap.size w'.heap.size w' (some ⟨g, 0, none⟩) cs := by
  have HT : Hid (∀ W, Below w.heap.size w W → Calls Try.prog 43 #[.slice p l c] W fun e w' => e = .returned (.slice (some ⟨W.heap.size, 0, none⟩) l l) ∧ Below W.heap.size W w' ∧ SlIn chE 10 W.heap.size w'.heap.size w' (some ⟨W.heap.size, 0, none⟩) cs) := fun W hW => toChangeS_any p cs l c W hl hm (hr.below hW (Nat.le_refl _))
  clear hl hm hr
  go_enter Try.func112, Try.ntmps112
  go_upto_region 2 with (fail)
  generalize hY : World.alloc _ _ = Y
  have gY : Below w.heap.size w Y := by rw [← hY]; go_grown
  have b0 : Y.cell? ⟨w.heap.size, 0, none⟩ = some (.int .i64 tx) := by rw [← hY]; simp [go_sem]
  have b1 : Y.cell? ⟨w.heap.size, 1, none⟩ = some (.slice p l c) := by rw [← hY]; simp [go_sem]
  have r0 : Y.cell? ⟨w.heap.size + 1, 0, none⟩ = some (.int .i64 0) := by rw [← hY]; simp [go_sem]
  have r1 : Y.cell? ⟨w.heap.size + 1, 1, none⟩ = some (.slice none 0 0) := by rw [← hY]; simp [go_sem]
  have rf0 : Y.frozen? ⟨w.heap.size + 1, 0, none⟩ = false := by rw [← hY]; simp [go_sem]
  have rf1 : Y.frozen? ⟨w.heap.size + 1, 1, none⟩ = false := by rw [← hY]; simp [go_sem]
  have o0 : Y.cell? ⟨w.heap.size + 1 + 1, 0, none⟩ = some (.int .i64 0) := by rw [← hY]; simp [go_sem]
  have o1 : Y.cell? ⟨w.heap.size + 1 + 1, 1, none⟩ = some (.slice none 0 0) := by rw [← hY]; simp [go_sem]
  have of0 : Y.frozen? ⟨w.heap.size + 1 + 1, 0, none⟩ = false := by rw [← hY]; simp [go_sem]
  have of1 : Y.frozen? ⟨w.heap.size + 1 + 1, 1, none⟩ = false := by rw [← hY]; simp [go_sem]
  clear hY
  obtain ⟨tb, htb⟩ : ∃ tb, w.heap.size = tb := ⟨_, rfl⟩
  have htw : w.heap.size ≤ tb := by omega
  rw [htb] at b0 b1 r0 r1 rf0 rf1 o0 o1 of0 of1
  simp only [htb]
  clear htb
  go_upto_region 3 with (fail)
  have t2 : Turned tb (tb + 3) Y (Y.setCell ⟨tb + 1 + 1, 0, none⟩ (.int .i64 tx)) := (Turned.refl _ _ Y).setCell (p := ⟨tb + 1 + 1, 0, none⟩) (by show tb ≤ tb + 1 + 1; omega) (by show tb + 1 + 1 < tb + 3; omega) _
  obtain ⟨Y2, hY2⟩ : ∃ Y2, Y.setCell ⟨tb + 1 + 1, 0, none⟩ (.int .i64 tx) = Y2 := ⟨_, rfl⟩
  have c1 : Y2.cell? ⟨tb, 1, none⟩ = some (.slice p l c) := by rw [← hY2]; simp [go_sem, b1]
  have d0 : Y2.cell? ⟨tb + 1, 0, none⟩ = some (.int .i64 0) := by rw [← hY2]; simp [go_sem, r0]
  have d1 : Y2.cell? ⟨tb + 1, 1, none⟩ = some (.slice none 0 0) := by rw [← hY2]; simp [go_sem, r1]
  have df0 : Y2.frozen? ⟨tb + 1, 0, none⟩ = false := by rw [← hY2, World.frozen?_setCell]; exact rf0
  have df1 : Y2.frozen? ⟨tb + 1, 1, none⟩ = false := by rw [← hY2, World.frozen?_setCell]; exact rf1
  have e0 : Y2.cell? ⟨tb + 1 + 1, 0, none⟩ = some (.int .i64 tx) := by rw [← hY2]; simp [go_sem, o0]
  have e1 : Y2.cell? ⟨tb + 1 + 1, 1, none⟩ = some (.slice none 0 0) := by rw [← hY2]; simp [go_sem, o1]
  have ef1 : Y2.frozen? ⟨tb + 1 + 1, 1, none⟩ = false := by rw [← hY2, World.frozen?_setCell]; exact of1
  rw [hY2] at t2
  try rw [hY2]
  have g2 : Below w.heap.size w Y2 := gY.trans (t2.toBelow gY.size htw)
  have hl2 : tb + 1 + 1 < Y2.heap.size := World.block_lt_of_cell? _ _ e0
  clear hY2 t2 gY b0 b1 r0 r1 rf0 rf1 o0 o1 of0 of1
  have hto := HT.out Y2 g2
  go_wp2_with fail
  refine hto.mono ?_
  rintro e W3 ⟨rfl, g3, s3⟩
  have hlo : tb + 3 ≤ Y2.heap.size := by omega
  have d0 := (g3.cell (p := ⟨tb + 1, 0, none⟩) (by show tb + 1 < _; omega)).trans d0
  have d1 := (g3.cell (p := ⟨tb + 1, 1, none⟩) (by show tb + 1 < _; omega)).trans d1
  have df0 := (g3.frozen (p := ⟨tb + 1, 0, none⟩) (by show tb + 1 < _; omega)).trans df0
  have df1 := (g3.frozen (p := ⟨tb + 1, 1, none⟩) (by show tb + 1 < _; omega)).trans df1
  have e0 := (g3.cell (p := ⟨tb + 1 + 1, 0, none⟩) hl2).trans e0
  have e1 := (g3.cell (p := ⟨tb + 1 + 1, 1, none⟩) hl2).trans e1
  have ef1 := (g3.frozen (p := ⟨tb + 1 + 1, 1, none⟩) hl2).trans ef1
  have g := g2.trans (g3.mono g2.size)
  have hg2 := g2.size
  clear hto g2 g3 c1
  generalize Y2.heap.size = lb at s3 hlo hl2 hg2 ⊢
  have HFin : Hid (∀ W, Turned tb (tb + 3) W3 W → Below w.heap.size w W ∧ SlIn chE 10 w.heap.size W.heap.size W (some ⟨lb, 0, none⟩) cs) := fun W ht => ⟨g.trans (ht.toBelow g.size htw), (s3.turned ht (.inr hlo)).mono hg2 ht.size⟩
  clear s3 g
  go_wp2_with fail
  refine bodyPost_ret (v := .agg #[.int .i64 tx, .slice (some ⟨lb, 0, none⟩) l l]) (by simp [results, Try.results112, go_sem, *]) rfl ?_
  refine ⟨lb, rfl, HFin.out _ ?_⟩
  exact (((Turned.refl _ _ W3).setCell (p := ⟨tb + 1 + 1, 1, none⟩) (by show tb ≤ tb + 1 + 1; omega) (by show tb + 1 + 1 < tb + 3; omega) _).setCell (p := ⟨tb + 1, 0, none⟩) (by show tb ≤ tb + 1; omega) (by show tb + 1 < tb + 3; omega) _).setCell (p := ⟨tb + 1, 1, none⟩) (by show tb ≤ tb + 1; omega) (by show tb + 1 < tb + 3; omega) _

theorem infoBf' : (Try.prog.info? 102).map (fun i => (i.zero, i.size, i.bytes)) = some (some (.agg #[.int .i64 0, .slice none 0 0]), 2, 32) := by kernel_rfl
theorem infoBf : ∃ i, Try.prog.info? 102 = some i ∧ i.zero = some (.agg #[.int .i64 0, .slice none 0 0]) ∧ i.size = 2 ∧ i.bytes = 32 := by
  have h := infoBf'
  cases hi : Try.prog.info? 102 with
  | none => rw [hi] at h; simp at h
  | some i => rw [hi] at h; simp at h; exact ⟨i, rfl, h.1, h.2.1, h.2.2⟩

/-- Buffers laid one by one. -/
structure PartB (w : World) (g n k : Nat) (bs : List Bf) : Prop where
  c : ∀ i x, i < k → bs[i]? = some x → ∃ p, w.cell? ⟨g, i * 2, none⟩ = some (.int .i64 x.tx) ∧ w.cell? ⟨g, i * 2 + 1, none⟩ = some (.slice (some ⟨p, 0, none⟩) x.cs.length x.cs.length) ∧ SlIn chE 10 (g + 1) w.heap.size w (some ⟨p, 0, none⟩) x.cs
  e : ∀ o, o < n * 2 → ∃ v, w.cell? ⟨g, o, none⟩ = some v
  f : ∀ o, w.frozen? ⟨g, o, none⟩ = false
theorem PartB.below {w w' : World} {g n k : Nat} {bs : List Bf} (h : PartB w g n k bs) (hb : Below w.heap.size w w') (hg : g < w.heap.size) : PartB w' g n k bs :=
  ⟨fun i x hi hx => by
    obtain ⟨p, h0, h1, h2⟩ := h.c i x hi hx
    exact ⟨p, (hb.cell (p := ⟨g, _, none⟩) hg).trans h0, (hb.cell (p := ⟨g, _, none⟩) hg).trans h1, (h2.below hb).mono (Nat.le_refl _) hb.size⟩, fun o ho => by obtain ⟨v, hv⟩ := h.e o ho; exact ⟨v, (hb.cell (p := ⟨g, _, none⟩) hg).trans hv⟩, fun o => (hb.frozen (p := ⟨g, _, none⟩) hg).trans (h.f o)⟩
theorem PartB.step {w : World} {g n k : Nat} {bs : List Bf} {x : Bf} {p : Nat} (h : PartB w g n k bs) (hk : k < n) (hx : bs[k]? = some x) (hs : SlIn chE 10 (g + 1) w.heap.size w (some ⟨p, 0, none⟩) x.cs) : PartB ((w.setCell ⟨g, k * 2, none⟩ (.int .i64 x.tx)).setCell ⟨g, k * 2 + 1, none⟩ (.slice (some ⟨p, 0, none⟩) x.cs.length x.cs.length)) g n (k + 1) bs := by
  obtain ⟨v0, hv0⟩ := h.e (k * 2) (by omega)
  obtain ⟨v1, hv1⟩ := h.e (k * 2 + 1) (by omega)
  have t : Turned g (g + 1) w ((w.setCell ⟨g, k * 2, none⟩ (.int .i64 x.tx)).setCell ⟨g, k * 2 + 1, none⟩ (.slice (some ⟨p, 0, none⟩) x.cs.length x.cs.length)) := ((Turned.refl _ _ w).setCell (p := ⟨g, k * 2, none⟩) (Nat.le_refl _) (Nat.lt_succ_self _) _).setCell (p := ⟨g, k * 2 + 1, none⟩) (Nat.le_refl _) (Nat.lt_succ_self _) _
  have oth : ∀ o, o ≠ k * 2 → o ≠ k * 2 + 1 → ((w.setCell ⟨g, k * 2, none⟩ (.int .i64 x.tx)).setCell ⟨g, k * 2 + 1, none⟩ (.slice (some ⟨p, 0, none⟩) x.cs.length x.cs.length)).cell? ⟨g, o, none⟩ = w.cell? ⟨g, o, none⟩ := fun o h1 h2 => by
    rw [cell_off (by omega), cell_off (by omega)]
  have c0 : ((w.setCell ⟨g, k * 2, none⟩ (.int .i64 x.tx)).setCell ⟨g, k * 2 + 1, none⟩ (.slice (some ⟨p, 0, none⟩) x.cs.length x.cs.length)).cell? ⟨g, k * 2, none⟩ = some (.int .i64 x.tx) := by
    rw [cell_off (by omega)]
    exact World.cell?_setCell_same _ _ _ hv0
  have c1 : ((w.setCell ⟨g, k * 2, none⟩ (.int .i64 x.tx)).setCell ⟨g, k * 2 + 1, none⟩ (.slice (some ⟨p, 0, none⟩) x.cs.length x.cs.length)).cell? ⟨g, k * 2 + 1, none⟩ = some (.slice (some ⟨p, 0, none⟩) x.cs.length x.cs.length) := World.cell?_setCell_same _ _ _ ((cell_off (by omega)).trans hv1)
  refine ⟨fun i y hi hy => ?_, fun o ho => ?_, fun o => by rw [World.frozen?_setCell, World.frozen?_setCell]; exact h.f o⟩
  · by_cases e : i = k
    · subst e
      rw [hx] at hy
      cases hy
      exact ⟨p, c0, c1, (hs.turned t (.inr (Nat.le_refl _))).mono (Nat.le_refl _) t.size⟩
    · obtain ⟨p', h0, h1, h2⟩ := h.c i y (by omega) hy
      exact ⟨p', (oth _ (by omega) (by omega)).trans h0, (oth _ (by omega) (by omega)).trans h1, (h2.turned t (.inr (Nat.le_refl _))).mono (Nat.le_refl _) t.size⟩
  · by_cases e1 : o = k * 2
    · rw [e1]; exact ⟨_, c0⟩
    · by_cases e2 : o = k * 2 + 1
      · rw [e2]; exact ⟨_, c1⟩
      · obtain ⟨v, hv⟩ := h.e o ho
        exact ⟨v, (oth o e1 e2).trans hv⟩
theorem PartB.read {w : World} {g n : Nat} {bs : List Bf} (h : PartB w g n n bs) (hn : bs.length = n) : BfRead w (some ⟨g, 0, none⟩) bs := by
  refine .inr ⟨g, 0, rfl, fun i x hx => ?_⟩
  obtain ⟨p, h0, h1, h2⟩ := h.c i x (by rw [← hn]; exact (List.getElem?_eq_some_iff.1 hx).1) hx
  exact ⟨_, _, by rw [Nat.zero_add]; exact h0, by rw [Nat.zero_add]; exact h1, h2.reads⟩

set_option maxHeartbeats 4000000 in
theorem toBufferS_any (a : Option Addr) (bs : List Bf) (n c : Nat) (w : World) (hn : bs.length = n) (hm : n ≤ 1048576) (hsm : BfSm bs) (hb : BfRead w a bs) :
    Calls Try.prog 60 #[.slice a n c] w fun e w' => e = .returned (.slice (some ⟨w.heap.size, 0, none⟩) n n) ∧ Below w.heap.size w w' ∧ w.heap.size < w'.heap.size ∧ PartB w' w.heap.size n n bs := by
  obtain ⟨i0, hi, hz0, hz1, hz2⟩ := infoBf
  have HN : Hid (bs.length = n) := hn
  have HB : Hid (BfRead w a bs) := hb
  have HSm : Hid (BfSm bs) := hsm
  clear hn hb hsm
  go_enter Try.func60, Try.ntmps60
  go_wp2_with (at_make; refine wpList_make_full _ rfl _ _ 41 rfl w.heap.size 102 i0 (.agg #[.int .i64 0, .slice none 0 0]) 2 Try.underlying41 hi hz0 hz1 .i64 .i64 _ _ n rfl rfl rfl rfl ?c1 ?c2 (Nat.le_refl _) ?_)
  case c1 => rw [hz2]; omega
  case c2 => unfold maxLen; omega
  intro w1 hown hg
  have hB : Below w.heap.size w w1 := Below.grown (Below.refl _ _) hg (Nat.le_refl _) (fun k hk => by cases hk)
  have hlt1 : w.heap.size < w1.heap.size := (hown.lt w.heap.size (by simp [Value.ownBlock])).2
  have hP : PartB w1 w.heap.size n 0 bs := ⟨fun i r hi => absurd hi (Nat.not_lt_zero _), fun o ho => ⟨_, by rw [hown.cellAt o (by omega)]; exact List.getElem?_eq_getElem (by simpa [madeCells] using ho)⟩, fun o => hown.frozenAt _⟩
  clear hown hg hi hz0 hz1 hz2
  go_wp2_with fail
  go_loopw [4] (fun i wr => ∃ k : Nat, k ≤ n ∧ i = .int .i64 k ∧ Below w.heap.size w wr ∧ PartB wr w.heap.size n k bs ∧ w.heap.size < wr.heap.size) (fun i _ => n - (intOf i).toNat)
  case atStart => exact ⟨0, Nat.zero_le _, rfl, hB, hP, hlt1⟩
  case round =>
    obtain ⟨k, hk, rfl, g, hP, hlt⟩ := hrel
    clear hB hlt1
    by_cases hlt2 : k < n
    · obtain ⟨x, hx⟩ : ∃ x, bs[k]? = some x := ⟨_, List.getElem?_eq_getElem (by rw [HN.out]; exact hlt2)⟩
      obtain ⟨b, off, xp, xc, rfl, x0, x1, xr⟩ := HB.out.at hx
      have hx0l := World.block_lt_of_cell? _ _ x0
      have x0 := (g.cell hx0l).trans x0
      have x1 := (g.cell (p := ⟨b, off + k * 2 + 1, none⟩) hx0l).trans x1
      have hsm1 := (HSm.out x (List.mem_of_getElem? hx)).1
      have hcon := toBuffer_any x.tx xp x.cs x.cs.length xc wr rfl hsm1 (xr.below g (Nat.le_refl _))
      have HX : Hid (bs[k]? = some x) := hx
      have hkn : (k : Int) < (n : Int) := by omega
      clear hx xr hx0l hsm1
      obtain ⟨xt, xcs⟩ := x
      dsimp only at x0 x1 hcon
      obtain ⟨xl, hxl⟩ : ∃ xl, xcs.length = xl := ⟨_, rfl⟩
      have HXl : Hid (xcs.length = xl) := hxl
      rw [hxl] at x1 hcon
      clear hxl
      go_wp2_with fail
      refine hcon.mono ?_
      rintro e w' ⟨gp, rfl, g', s'⟩
      have hP := hP.below g' hlt
      have g2 : Below w.heap.size w w' := g.trans (g'.mono g.size)
      have hlt' : w.heap.size < w'.heap.size := by have := g'.size; omega
      have hP' := hP.step (x := ⟨xt, xcs⟩) hlt2 HX.out (s'.mono (by omega) (Nat.le_refl _))
      dsimp only at hP'
      rw [HXl.out] at hP'
      obtain ⟨v0, r0⟩ := hP.e (k * 2) (by omega)
      obtain ⟨v1, r1⟩ := hP.e (k * 2 + 1) (by omega)
      have f0 := hP.f (k * 2)
      have f1 := hP.f (k * 2 + 1)
      clear g g' hP x0 x1 HX s' hcon
      go_wp2_with fail
      go_roundw
      case rel => exact ⟨k + 1, by omega, by go_num, by go_grown, hP', by simp; omega⟩
      case measure => simp [intOf]; omega
    · have e : k = n := by omega
      subst e
      have HRd : Hid (PartB wr w.heap.size k k bs) := hP
      have hkn : ¬ (k : Int) < (k : Int) := by omega
      clear hP
      go_wp2_with fail
      go_ret
      exact ⟨rfl, g, hlt, HRd.out⟩

set_option maxHeartbeats 2000000 in
theorem eqBuffer_same (tx : Int) (p p' : Option Addr) (cs : List Chg) (l c d : Nat) (w : World) (hl : cs.length = l) (hm : l ≤ 9223372036854775807) (hx : Rs chE 10 w p cs) (hy : Rs chE 10 w p' cs) :
    Calls Try.prog 117 #[.agg #[.int .i64 tx, .slice p l c], .agg #[.int .i64 tx, .slice p' l d]] w fun e w' => e = .returned (.bool true) ∧ Below w.heap.size w w' := by
  obtain ⟨X, hX⟩ : ∃ X, (w.alloc (.cells #[.int .i64 tx, .slice p l c] 102)).alloc (.cells #[.int .i64 tx, .slice p' l d] 102) = X := ⟨_, rfl⟩
  have gX : Below w.heap.size w X := by rw [← hX]; go_grown
  have p0 : X.cell? ⟨w.heap.size, 0, none⟩ = some (.int .i64 tx) := by rw [← hX]; simp [go_sem]
  have p1 : X.cell? ⟨w.heap.size, 1, none⟩ = some (.slice p l c) := by rw [← hX]; simp [go_sem]
  have q0 : X.cell? ⟨w.heap.size + 1, 0, none⟩ = some (.int .i64 tx) := by rw [← hX]; simp [go_sem]
  have q1 : X.cell? ⟨w.heap.size + 1, 1, none⟩ = some (.slice p' l d) := by rw [← hX]; simp [go_sem]
  have hcon := eqChangeS_same p p' cs l c d X hl hm (hx.below gX (Nat.le_refl _)) (hy.below gX (Nat.le_refl _))
  clear hl hm hx hy
  go_enter Try.func117, Try.ntmps117
  go_wp2_with (go_at_call 46; refine hcon.mono ?_)
  rintro e W ⟨rfl, gW⟩
  have g := gX.trans (gW.mono gX.size)
  clear p0 p1 q0 q1 hcon gW gX hX
  go_wp2_with fail
  go_ret
  exact ⟨rfl, g⟩

set_option maxHeartbeats 4000000 in
theorem eqBufferS_same (a a' : Option Addr) (bs : List Bf) (n c d : Nat) (w : World) (hn : bs.length = n) (hm : n ≤ 9223372036854775807) (hok : BfOk bs) (hx : BfRead w a bs) (hy : BfRead w a' bs) :
    Calls Try.prog 63 #[.slice a n c, .slice a' n d] w fun e w' => e = .returned (.bool true) ∧ Below w.heap.size w w' := by
  have HN : Hid (bs.length = n) := hn
  have HX : Hid (BfRead w a bs) := hx
  have HY : Hid (BfRead w a' bs) := hy
  have HO : Hid (BfOk bs) := hok
  clear hn hx hy hok
  go_enter Try.func63, Try.ntmps63
  go_wp2_with fail
  go_loopw [5] (fun i wr => ∃ j : Nat, j ≤ n ∧ i = .int .i64 j ∧ Below w.heap.size w wr) (fun i _ => n - (intOf i).toNat)
  case atStart => exact ⟨0, Nat.zero_le _, rfl, Below.refl _ _⟩
  case round =>
    obtain ⟨j, hj, rfl, g⟩ := hrel
    by_cases hlt : j < n
    · obtain ⟨x, hx⟩ : ∃ x, bs[j]? = some x := ⟨_, List.getElem?_eq_getElem (by rw [HN.out]; exact hlt)⟩
      obtain ⟨b, off, xp, xc, rfl, x0, x1, xr⟩ := HX.out.at hx
      obtain ⟨b', off', yp, yc, rfl, y0, y1, yr⟩ := HY.out.at hx
      have hxl := World.block_lt_of_cell? _ _ x0
      have hyl := World.block_lt_of_cell? _ _ y0
      have hol := (HO.out x (List.mem_of_getElem? hx)).1
      have HEq : Hid (∀ W, Below w.heap.size w W → Calls Try.prog 117 #[.agg #[.int .i64 x.tx, .slice xp x.cs.length xc], .agg #[.int .i64 x.tx, .slice yp x.cs.length yc]] W fun e w' => e = .returned (.bool true) ∧ Below W.heap.size W w') := fun W hW => eqBuffer_same x.tx xp yp x.cs x.cs.length xc yc W rfl hol (xr.below hW (Nat.le_refl _)) (yr.below hW (Nat.le_refl _))
      have hC : (wr.drew.cell? ⟨b, off + j * 2, none⟩ = some (.int .i64 x.tx) ∧ wr.drew.cell? ⟨b, off + j * 2 + 1, none⟩ = some (.slice xp x.cs.length xc)) ∧ wr.drew.cell? ⟨b', off' + j * 2, none⟩ = some (.int .i64 x.tx) ∧ wr.drew.cell? ⟨b', off' + j * 2 + 1, none⟩ = some (.slice yp x.cs.length yc) := ⟨⟨(g.drew.cell hxl).trans x0, (g.drew.cell (p := ⟨b, off + j * 2 + 1, none⟩) hxl).trans x1⟩, (g.drew.cell hyl).trans y0, (g.drew.cell (p := ⟨b', off' + j * 2 + 1, none⟩) hyl).trans y1⟩
      have hjn : (j : Int) < (n : Int) := by omega
      clear hx xr yr x0 x1 y0 y1 hol hxl hyl
      obtain ⟨xt, xcs⟩ := x
      dsimp only at HEq hC
      generalize xcs.length = xl at HEq hC
      go_upto_region 6 with (fail)
      refine wp_region_held_drew (S := fun V => ((V.cell? ⟨b, off + j * 2, none⟩ = some (.int .i64 xt) ∧ V.cell? ⟨b, off + j * 2 + 1, none⟩ = some (.slice xp xl xc)) ∧ V.cell? ⟨b', off' + j * 2, none⟩ = some (.int .i64 xt) ∧ V.cell? ⟨b', off' + j * 2 + 1, none⟩ = some (.slice yp xl yc)) ∧ Below w.heap.size w V) (by kernel_rfl) ⟨hC, g.drew⟩ (fun hHeld => ?_)
      clear hC g
      generalize wr.drew = D at hHeld ⊢
      refine wpAnyH_take (i := 0) (v := ?v1) rfl (by kernel_rfl) (by kernel_rfl) (by kernel_rfl) (fun _ _ _ h => h) (Or.inl ⟨by kernel_rfl, ?h1⟩) hHeld ?_
      case h1 => intro u hSw; clear hSw; go_simp; try with_reducible rfl
      try simp only [List.getElem_toArray]
      try simp only [List.getElem_cons_succ]
      try simp only [List.getElem_cons_zero]
      try simp only [Act.put]
      try simp only [List.setIfInBounds_toArray]
      try simp only [List.set]
      refine wpAnyH_take (i := 1) (v := ?v2) rfl (by kernel_rfl) (by kernel_rfl) (by kernel_rfl) (fun _ _ _ h => h) (Or.inl ⟨by kernel_rfl, ?h2⟩) hHeld ?_
      case h2 => intro u hSw; clear hSw; go_simp; try with_reducible rfl
      try simp only [List.getElem_toArray]
      try simp only [List.getElem_cons_succ]
      try simp only [List.getElem_cons_zero]
      try simp only [Act.put]
      try simp only [List.setIfInBounds_toArray]
      try simp only [List.set]
      refine wpAnyH_take (i := 2) (v := ?v3) rfl (by kernel_rfl) (by kernel_rfl) (by kernel_rfl) (fun _ _ _ h => h) (Or.inl ⟨by kernel_rfl, ?h3⟩) hHeld ?_
      case h3 => intro u hSw; clear hSw; go_simp; try with_reducible rfl
      try simp only [List.getElem_toArray]
      try simp only [List.getElem_cons_succ]
      try simp only [List.getElem_cons_zero]
      try simp only [Act.put]
      try simp only [List.setIfInBounds_toArray]
      try simp only [List.set]
      refine wpAnyH_take (i := 3) (v := ?v4) rfl (by kernel_rfl) (by kernel_rfl) (by kernel_rfl) (fun _ _ _ h => h) (Or.inl ⟨by kernel_rfl, ?h4⟩) hHeld ?_
      case h4 => intro u hSw; (obtain ⟨⟨q0, q1⟩, q2, q3⟩ := hSw.1); clear hSw; go_simp; try with_reducible rfl
      try simp only [List.getElem_toArray]
      try simp only [List.getElem_cons_succ]
      try simp only [List.getElem_cons_zero]
      try simp only [Act.put]
      try simp only [List.setIfInBounds_toArray]
      try simp only [List.set]
      refine wpAnyH_take (i := 4) (v := ?v5) rfl (by kernel_rfl) (by kernel_rfl) (by kernel_rfl) (fun _ _ _ h => h) (Or.inl ⟨by kernel_rfl, ?h5⟩) hHeld ?_
      case h5 => intro u hSw; clear hSw; go_simp; try with_reducible rfl
      try simp only [List.getElem_toArray]
      try simp only [List.getElem_cons_succ]
      try simp only [List.getElem_cons_zero]
      try simp only [Act.put]
      try simp only [List.setIfInBounds_toArray]
      try simp only [List.set]
      refine wpAnyH_take (i := 5) (v := ?v6) rfl (by kernel_rfl) (by kernel_rfl) (by kernel_rfl) (fun _ _ _ h => h) (Or.inl ⟨by kernel_rfl, ?h6⟩) hHeld ?_
      case h6 => intro u hSw; clear hSw; go_simp; try with_reducible rfl
      try simp only [List.getElem_toArray]
      try simp only [List.getElem_cons_succ]
      try simp only [List.getElem_cons_zero]
      try simp only [Act.put]
      try simp only [List.setIfInBounds_toArray]
      try simp only [List.set]
      refine wpAnyH_take (i := 6) (v := ?v7) rfl (by kernel_rfl) (by kernel_rfl) (by kernel_rfl) (fun _ _ _ h => h) (Or.inl ⟨by kernel_rfl, ?h7⟩) hHeld ?_
      case h7 => intro u hSw; clear hSw; go_simp; try with_reducible rfl
      try simp only [List.getElem_toArray]
      try simp only [List.getElem_cons_succ]
      try simp only [List.getElem_cons_zero]
      try simp only [Act.put]
      try simp only [List.setIfInBounds_toArray]
      try simp only [List.set]
      refine wpAnyH_take (i := 7) (v := ?v8) rfl (by kernel_rfl) (by kernel_rfl) (by kernel_rfl) (fun _ _ _ h => h) (Or.inl ⟨by kernel_rfl, ?h8⟩) hHeld ?_
      case h8 => intro u hSw; (obtain ⟨⟨q0, q1⟩, q2, q3⟩ := hSw.1); clear hSw; go_simp; try with_reducible rfl
      try simp only [List.getElem_toArray]
      try simp only [List.getElem_cons_succ]
      try simp only [List.getElem_cons_zero]
      try simp only [Act.put]
      try simp only [List.setIfInBounds_toArray]
      try simp only [List.set]
      refine wpAnyH_ready (rs := [8]) (by kernel_rfl) (by simp) ?_
      refine AllReadyH.cons rfl (fun K hK => ?_) AllReadyH.nil
      go_simp
      go_wp2_with (go_at_call 117; refine (HEq.out _ hHeld.2).mono ?_; rintro e W8 ⟨rfl, gg⟩)
      refine hK.out _ _ (⟨⟨⟨(gg.cell (World.block_lt_of_cell? _ _ hHeld.1.1.1)).trans hHeld.1.1.1, (gg.cell (World.block_lt_of_cell? _ _ hHeld.1.1.2)).trans hHeld.1.1.2⟩, (gg.cell (World.block_lt_of_cell? _ _ hHeld.1.2.1)).trans hHeld.1.2.1, (gg.cell (World.block_lt_of_cell? _ _ hHeld.1.2.2)).trans hHeld.1.2.2⟩, hHeld.2.trans (gg.mono hHeld.2.size)⟩) (fun hHeld => ?_)
      clear hK K
      clear gg
      try simp only [Act.put]
      try simp only [List.setIfInBounds_toArray]
      try simp only [List.set]
      refine wpAnyH_take (i := 9) (v := ?v9) rfl (by kernel_rfl) (by kernel_rfl) (by kernel_rfl) (fun _ _ _ h => h) (Or.inl ⟨by kernel_rfl, ?h9⟩) hHeld ?_
      case h9 => intro u hSw; clear hSw; go_simp; try with_reducible rfl
      try simp only [List.getElem_toArray]
      try simp only [List.getElem_cons_succ]
      try simp only [List.getElem_cons_zero]
      try simp only [Act.put]
      try simp only [List.setIfInBounds_toArray]
      try simp only [List.set]
      refine wpAnyH_done (by kernel_rfl) ?_ _
      have g := hHeld.2
      clear hHeld HEq
      go_wp2_with fail
      go_roundw
      case rel => exact ⟨j + 1, by omega, by go_num, g⟩
      case measure => simp [intOf]; omega
    · have hjn : ¬ (j : Int) < (n : Int) := by omega
      go_wp2_with fail
      go_ret
      exact ⟨rfl, g⟩

end Go.Proofs.Ytonngopnhpmjaaa
