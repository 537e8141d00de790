/-
  Buffers in memory; the program's bufferFault and MinerFault.
-/
import Derived.Test.YtonngopnhpmjaaaEFcj
import Derived.Test.YtonngopnhpmjaaaEMfa

namespace Go.Proofs.Ytonngopnhpmjaaa
open Go.RowKit Go.Maps
set_option linter.unusedVariables false
set_option maxRecDepth 20000

/-- A buffer: its number, its changes. -/
structure Bf where
  tx : Int
  cs : List Chg
/-- The slice that begins at a reads as the buffers bs. -/
def BfRead (w : World) (a : Option Addr) (bs : List Bf) : Prop :=
  bs = [] ∨ ∃ b off, a = some ⟨b, off, none⟩ ∧ ∀ i x, bs[i]? = some x → ∃ p c, w.cell? ⟨b, off + i * 2, none⟩ = some (.int .i64 x.tx) ∧ w.cell? ⟨b, off + i * 2 + 1, none⟩ = some (.slice p x.cs.length c) ∧ Rs chE 10 w p x.cs
theorem BfRead.below {w w' : World} {a : Option Addr} {bs : List Bf} (h : BfRead w a bs) {B : Nat} (hb : Below B w w') (hB : w.heap.size ≤ B) : BfRead w' a bs := by
  rcases h with h | ⟨b, off, ha, hc⟩
  · exact .inl h
  · refine .inr ⟨b, off, ha, fun i x hx => ?_⟩
    obtain ⟨p, c, h0, h1, h2⟩ := hc i x hx
    exact ⟨p, c, (hb.cell (p := ⟨b, _, none⟩) (Nat.lt_of_lt_of_le (World.block_lt_of_cell? w _ h0) hB)).trans h0, (hb.cell (p := ⟨b, _, none⟩) (Nat.lt_of_lt_of_le (World.block_lt_of_cell? w _ h1) hB)).trans h1, h2.below hb hB⟩
theorem BfRead.at {w : World} {a : Option Addr} {bs : List Bf} (h : BfRead w a bs) {i : Nat} {x : Bf} (hx : bs[i]? = some x) : ∃ b off p c, a = some ⟨b, off, none⟩ ∧ w.cell? ⟨b, off + i * 2, none⟩ = some (.int .i64 x.tx) ∧ w.cell? ⟨b, off + i * 2 + 1, none⟩ = some (.slice p x.cs.length c) ∧ Rs chE 10 w p x.cs := by
  rcases h with h | ⟨b, off, ha, hc⟩
  · rw [h] at hx; simp at hx
  · obtain ⟨p, c, h0, h1, h2⟩ := hc i x hx
    exact ⟨b, off, p, c, ha, h0, h1, h2⟩
theorem BfRead.take {w : World} {a : Option Addr} {bs : List Bf} (h : BfRead w a bs) (j : Nat) : BfRead w a (bs.take j) := by
  rcases h with h | ⟨b, off, ha, hc⟩
  · exact .inl (by rw [h]; simp)
  · refine .inr ⟨b, off, ha, fun i x hx => hc i x ?_⟩
    rw [List.getElem?_take] at hx
    split at hx
    · exact hx
    · cases hx

/-- What is asked of a number, of a buffer behind others, of all. -/
def txQ' (t : Int) : Int := if 1 ≤ t ∧ t ≤ 99 then 0 else 3
def bfQ (ps : List Bf) (x : Bf) : Int := if txQ' x.tx = 0 then (if fdQ x.cs = 0 then (if ps.any (fun y => decide (y.tx = x.tx)) = true then 6 else 0) else fdQ x.cs) else txQ' x.tx
def bsQ : List Bf → List Bf → Int
  | _, [] => 0
  | ps, x :: l => if bfQ ps x = 0 then bsQ (ps ++ [x]) l else bfQ ps x
def mnQ (ps : List (List Int)) (bs : List Bf) : Int := if viewQ ps = 0 then (if 8 < bs.length then 2 else bsQ [] bs) else viewQ ps
theorem bsQ_at {bs : List Bf} {j : Nat} {x : Bf} (hx : bs[j]? = some x) : bsQ (bs.take j) (bs.drop j) = if bfQ (bs.take j) x = 0 then bsQ (bs.take (j + 1)) (bs.drop (j + 1)) else bfQ (bs.take j) x := by
  obtain ⟨hj, e⟩ := List.getElem?_eq_some_iff.1 hx
  rw [List.drop_eq_getElem_cons hj, e, bsQ, take_snoc hx]

set_option maxHeartbeats 1000000 in
theorem txFault_any (t : Int) (w : World) : Calls Try.prog 114 #[.int .i64 t] w fun e w' => e = .returned (.int .i64 (txQ' t)) ∧ Below w.heap.size w w' := by
  obtain ⟨bb, hbb⟩ : ∃ bb, inW t 1 99 = bb := ⟨_, rfl⟩
  have hcon := isWithinW_any t 1 99 w
  have HE : Hid (txQ' t = if bb = true then 0 else 3) := by
    show _ = _
    rw [← hbb]
    unfold txQ' inW
    by_cases h : 1 ≤ t ∧ t ≤ 99
    · rw [if_pos h, if_pos (by simpa using h)]
    · rw [if_neg h, if_neg (by simpa using h)]
  rw [hbb] at hcon
  obtain ⟨q, hq⟩ : ∃ q, txQ' t = q := ⟨_, rfl⟩
  rw [hq] at HE ⊢
  clear hq hbb
  go_enter Try.func114, Try.ntmps114
  go_wp2_with fail
  refine hcon.mono ?_
  rintro e w1 ⟨rfl, hw1⟩
  subst w1
  clear hcon
  cases bb
  · have HX : Hid (q = 3) := HE.out
    go_wp2_with fail
    go_ret
    exact ⟨by rw [HX.out]; rfl, Below.refl _ _⟩
  · have HX : Hid (q = 0) := HE.out
    go_wp2_with fail
    go_ret
    exact ⟨by rw [HX.out]; rfl, Below.refl _ _⟩

set_option maxHeartbeats 400000 in
theorem bufferFault1_any (xt : Int) (p : Option Addr) (l c : Nat) (tb : Nat) (t : Int) (w : World) (ht : w.cell? ⟨tb, 0, none⟩ = some (.int .i64 t)) :
    Calls Try.prog 116 #[.agg #[.int .i64 xt, .slice p l c], .pointer (some ⟨tb, 0, none⟩)] w fun e w' => e = .returned (.bool (decide (xt = t))) ∧ Below w.heap.size w w' := by
  go_enter Try.func116, Try.ntmps116
  have hlt := World.block_lt_of_cell? w _ ht
  go_wp2_with fail
  go_ret
  exact ⟨rfl, by go_grown⟩

set_option maxHeartbeats 2000000 in
theorem indexBufs_any (a : Option Addr) (bs : List Bf) (n c tb : Nat) (t : Int) (w : World) (hn : bs.length = n) (hm : n ≤ 60) (hr : BfRead w a bs) (ht : w.cell? ⟨tb, 0, none⟩ = some (.int .i64 t)) :
    Calls Try.prog 153 #[.slice a n c, .func (.func 116) #[] #[.pointer (some ⟨tb, 0, none⟩)]] w fun e w' => ∃ r : Int, e = .returned (.int .i64 r) ∧ decide (0 ≤ r) = bs.any (fun x => decide (x.tx = t)) ∧ Below w.heap.size w w' := by
  have HN : Hid (bs.length = n) := hn
  have HR : Hid (∀ W, Below w.heap.size w W → BfRead W a bs) := fun W hW => hr.below hW (Nat.le_refl _)
  have HC : Hid (∀ (xt : Int) (p : Option Addr) (l c : Nat) (W : World), Below w.heap.size w W → Calls Try.prog 116 #[.agg #[.int .i64 xt, .slice p l c], .pointer (some ⟨tb, 0, none⟩)] W fun e w' => e = .returned (.bool (decide (xt = t))) ∧ Below W.heap.size W w') := fun xt p l c W hW => bufferFault1_any xt p l c tb t W ((hW.cell (p := ⟨tb, 0, none⟩) (World.block_lt_of_cell? w _ ht)).trans ht)
  clear hn hr ht
  go_enter Try.func153, Try.ntmps153
  go_wp2_with fail
  go_loopw [8] (fun i wr => ∃ j : Nat, j ≤ n ∧ i = .int .i64 j ∧ Below w.heap.size w wr ∧ Hid (∀ x ∈ bs.take j, (decide (x.tx = t)) = false)) (fun i _ => n - (intOf i).toNat)
  case atStart => exact ⟨0, Nat.zero_le _, rfl, Below.refl _ _, by intro x hx; simp at hx⟩
  case round =>
    obtain ⟨j, hj, rfl, gr, hA⟩ := hrel
    by_cases hlt : j < n
    · obtain ⟨x, hx⟩ : ∃ x, bs[j]? = some x := ⟨_, List.getElem?_eq_getElem (by rw [HN.out]; exact hlt)⟩
      obtain ⟨b, off, xp, xc, rfl, x0, x1, _⟩ := (HR.out _ gr).at hx
      have hjn : (j : Int) < (n : Int) := by omega
      have HX : Hid (bs[j]? = some x) := hx
      have hcon := HC.out x.tx xp x.cs.length xc wr gr
      obtain ⟨p, hp⟩ : ∃ p, p = (decide (x.tx = t)) := ⟨_, rfl⟩
      have HP : Hid ((decide (x.tx = t)) = p) := hp.symm
      rw [← hp] at hcon
      clear hx hp
      obtain ⟨xt, xcs⟩ := x
      dsimp only at x0 x1 hcon
      generalize xcs.length = xl at x1 hcon
      go_wp2_with fail
      refine hcon.mono ?_
      rintro e W ⟨rfl, gW⟩
      have gr := gr.trans (gW.mono gr.size)
      clear gW hcon x0 x1
      cases p
      · have HA2 : Hid (∀ x ∈ bs.take (j + 1), (decide (x.tx = t)) = false) := by
          intro x hx
          rw [take_snoc HX.out] at hx
          rcases List.mem_append.1 hx with hx | hx
          · exact hA.out x hx
          · simp only [List.mem_singleton] at hx; rw [hx]; exact HP.out
        go_wp2_with fail
        go_roundw
        case rel => exact ⟨j + 1, by omega, by go_num, gr, HA2⟩
        case measure => simp [intOf]; omega
      · have HE : Hid (decide ((0 : Int) ≤ (j : Int)) = bs.any (fun x => decide (x.tx = t))) := by
          show _ = _
          rw [List.any_eq_true.2 ⟨_, List.mem_of_getElem? HX.out, HP.out⟩]
          simp
        go_wp2_with fail
        go_ret
        exact ⟨_, rfl, HE.out, gr⟩
    · have HE : Hid (decide ((0 : Int) ≤ (-1 : Int)) = bs.any (fun x => decide (x.tx = t))) := by
        show _ = _
        have h2 := hA.out
        rw [List.take_of_length_le (by rw [HN.out]; omega)] at h2
        rw [List.any_eq_false.2 (fun x hx => by rw [h2 x hx]; simp)]
        rfl
      have hjm : ¬ (j : Int) < (n : Int) := by omega
      go_wp2_with fail
      go_ret
      exact ⟨_, rfl, HE.out, gr⟩

set_option maxHeartbeats 1000000 in
theorem containsBufs_any (a : Option Addr) (bs : List Bf) (n c tb : Nat) (t : Int) (w : World) (hn : bs.length = n) (hm : n ≤ 60) (hr : BfRead w a bs) (ht : w.cell? ⟨tb, 0, none⟩ = some (.int .i64 t)) :
    Calls Try.prog 115 #[.slice a n c, .func (.func 116) #[] #[.pointer (some ⟨tb, 0, none⟩)]] w fun e w' => e = .returned (.bool (bs.any (fun x => decide (x.tx = t)))) ∧ Below w.heap.size w w' := by
  have hcon := indexBufs_any a bs n c tb t w hn hm hr ht
  generalize bs.any (fun x => decide (x.tx = t)) = B at hcon ⊢
  clear hn hm hr ht
  go_enter Try.func115, Try.ntmps115
  go_wp2_with fail
  refine hcon.mono ?_
  rintro e W ⟨r, rfl, hd, gW⟩
  subst hd
  clear hcon
  go_wp2_with fail
  go_ret
  exact ⟨rfl, gW⟩

/-- A buffer that is kept. -/
structure BxS (w : World) (bb : Nat) (tx : Int) (p : Option Addr) (l c : Nat) (V : World) : Prop where
  b : V.cell? ⟨bb, 0, none⟩ = some (.int .i64 tx) ∧ V.cell? ⟨bb, 1, none⟩ = some (.slice p l c)
  g : Below w.heap.size w V
theorem BxS.up {w V V' : World} {bb : Nat} {tx : Int} {p : Option Addr} {l c : Nat} (h : BxS w bb tx p l c V) (hb : Below V.heap.size V V') : BxS w bb tx p l c V' := by
  have hl : bb < V.heap.size := World.block_lt_of_cell? V _ h.b.1
  exact ⟨⟨(hb.cell hl).trans h.b.1, (hb.cell (p := ⟨bb, 1, none⟩) hl).trans h.b.2⟩, h.g.trans (hb.mono h.g.size)⟩

set_option maxHeartbeats 4000000 in
theorem bufferFault_any (tx : Int) (p : Option Addr) (cs : List Chg) (l c : Nat) (a : Option Addr) (ps : List Bf) (n cc : Nat) (w : World) (hl : cs.length = l) (hm : l ≤ 9223372036854775807) (hs : ∀ x ∈ cs, x.b.s.size ≤ maxLen ∧ x.a.s.size ≤ maxLen) (hr : Rs chE 10 w p cs) (hn : ps.length = n) (hn60 : n ≤ 60) (hp : BfRead w a ps) :
    Calls Try.prog 62 #[.agg #[.int .i64 tx, .slice p l c], .slice a n cc] w fun e w' => e = .returned (.int .i64 (bfQ ps ⟨tx, cs⟩)) ∧ Below w.heap.size w w' := by
  have HFf : Hid (∀ V, Below w.heap.size w V → Calls Try.prog 92 #[.slice p l c] V fun e w' => e = .returned (.int .i64 (fdQ cs)) ∧ Below V.heap.size V w') := fun V hV => foldedFault_any p cs l c V hl hm hs (hr.below hV (Nat.le_refl _))
  have HTx : Hid (∀ V, Calls Try.prog 114 #[.int .i64 tx] V fun e w' => e = .returned (.int .i64 (txQ' tx)) ∧ Below V.heap.size V w') := fun V => txFault_any tx V
  have HCn : Hid (∀ (tb : Nat) (V : World), Below w.heap.size w V → V.cell? ⟨tb, 0, none⟩ = some (.int .i64 tx) → Calls Try.prog 115 #[.slice a n cc, .func (.func 116) #[] #[.pointer (some ⟨tb, 0, none⟩)]] V fun e w' => e = .returned (.bool (ps.any (fun x => decide (x.tx = tx)))) ∧ Below V.heap.size V w') := fun tb V hV ht => containsBufs_any a ps n cc tb tx V hn hn60 (hp.below hV (Nat.le_refl _)) ht
  have HQ0 : Hid (bfQ ps ⟨tx, cs⟩ = if txQ' tx = 0 then (if fdQ cs = 0 then (if ps.any (fun y => decide (y.tx = tx)) = true then 6 else 0) else fdQ cs) else txQ' tx) := rfl
  generalize bfQ ps ⟨tx, cs⟩ = Q at HQ0 ⊢
  generalize fdQ cs = q2 at HFf HQ0
  generalize txQ' tx = q1 at HTx HQ0
  generalize ps.any (fun y => decide (y.tx = tx)) = tk at HCn HQ0
  clear hl hs hr hp hm hn
  go_enter Try.func62, Try.ntmps62
  go_upto_region 1 with (fail)
  generalize hX : World.alloc _ _ = X
  have hS : BxS w w.heap.size tx p l c X := by
    rw [← hX]
    exact ⟨⟨by simp [go_sem], by simp [go_sem]⟩, by go_grown⟩
  clear hX
  obtain ⟨bb, hbb⟩ : ∃ bb, w.heap.size = bb := ⟨_, rfl⟩
  rw [hbb] at hS
  simp only [hbb]
  clear hbb
  go_cut [5] from 7 (fun s wc => s = .int .i64 (orI q1 q2) ∧ BxS w bb tx p l c wc)
  case first =>
    refine wp_region_held_drew (S := BxS w bb tx p l c) (by kernel_rfl) (hS.up (Below.refl _ _).drew) (fun hHeld => ?_)
    clear hS
    generalize X.drew = D at hHeld ⊢
    refine wpAnyH_take (i := 0) (v := ?v1) rfl (by kernel_rfl) (by kernel_rfl) (by kernel_rfl) (fun _ _ _ h => h) (Or.inl ⟨by kernel_rfl, ?h1⟩) hHeld ?_
    case h1 => intro u hSw; clear hSw; go_simp; try with_reducible rfl
    try simp only [List.getElem_toArray]
    try simp only [List.getElem_cons_succ]
    try simp only [List.getElem_cons_zero]
    try simp only [Act.put]
    try simp only [List.setIfInBounds_toArray]
    try simp only [List.set]
    refine wpAnyH_take (i := 1) (v := ?v2) rfl (by kernel_rfl) (by kernel_rfl) (by kernel_rfl) (fun _ _ _ h => h) (Or.inl ⟨by kernel_rfl, ?h2⟩) hHeld ?_
    case h2 => intro u hSw; (obtain ⟨q0, q1⟩ := hSw.b); clear hSw; go_simp; try with_reducible rfl
    try simp only [List.getElem_toArray]
    try simp only [List.getElem_cons_succ]
    try simp only [List.getElem_cons_zero]
    try simp only [Act.put]
    try simp only [List.setIfInBounds_toArray]
    try simp only [List.set]
    refine wpAnyH_take (i := 3) (v := ?v3) rfl (by kernel_rfl) (by kernel_rfl) (by kernel_rfl) (fun _ _ _ h => h) (Or.inl ⟨by kernel_rfl, ?h3⟩) hHeld ?_
    case h3 => intro u hSw; clear hSw; go_simp; try with_reducible rfl
    try simp only [List.getElem_toArray]
    try simp only [List.getElem_cons_succ]
    try simp only [List.getElem_cons_zero]
    try simp only [Act.put]
    try simp only [List.setIfInBounds_toArray]
    try simp only [List.set]
    refine wpAnyH_take (i := 4) (v := ?v4) rfl (by kernel_rfl) (by kernel_rfl) (by kernel_rfl) (fun _ _ _ h => h) (Or.inl ⟨by kernel_rfl, ?h4⟩) hHeld ?_
    case h4 => intro u hSw; (obtain ⟨q0, q1⟩ := hSw.b); clear hSw; go_simp; try with_reducible rfl
    try simp only [List.getElem_toArray]
    try simp only [List.getElem_cons_succ]
    try simp only [List.getElem_cons_zero]
    try simp only [Act.put]
    try simp only [List.setIfInBounds_toArray]
    try simp only [List.set]
    refine wpAnyH_ready (rs := [2]) (by kernel_rfl) (by simp) ?_
    refine AllReadyH.cons rfl (fun K hK => ?_) AllReadyH.nil
    go_simp
    go_wp2_with (go_at_call 114; refine (HTx.out _).mono ?_; rintro e W2 ⟨rfl, gg⟩)
    refine hK.out _ _ (hHeld.up gg) (fun hHeld => ?_)
    clear hK K
    clear gg
    try simp only [Act.put]
    try simp only [List.setIfInBounds_toArray]
    try simp only [List.set]
    refine wpAnyH_ready (rs := [5]) (by kernel_rfl) (by simp) ?_
    refine AllReadyH.cons rfl (fun K hK => ?_) AllReadyH.nil
    go_simp
    go_wp2_with (go_at_call 92; refine (HFf.out _ hHeld.g).mono ?_; rintro e W5 ⟨rfl, gg⟩)
    refine hK.out _ _ (hHeld.up gg) (fun hHeld => ?_)
    clear hK K
    clear gg
    try simp only [Act.put]
    try simp only [List.setIfInBounds_toArray]
    try simp only [List.set]
    have gA : Below W5.heap.size W5 (W5.alloc (.cells #[.int .i64 q1, .int .i64 q2] 2)) := by go_grown
    have hc0 : (W5.alloc (.cells #[.int .i64 q1, .int .i64 q2] 2)).cell? ⟨W5.heap.size, 0, none⟩ = some (.int .i64 q1) := by simp [go_sem]
    have hc1 : (W5.alloc (.cells #[.int .i64 q1, .int .i64 q2] 2)).cell? ⟨W5.heap.size, 1, none⟩ = some (.int .i64 q2) := by simp [go_sem]
    refine wpAnyH_ready (rs := [6]) (by kernel_rfl) (by simp) ?_
    refine AllReadyH.cons rfl (fun K hK => ?_) AllReadyH.nil
    go_simp
    refine hK.out _ _ (hHeld.up gA) (fun hHeld => ?_)
    clear hK K gA
    generalize W5.alloc (.cells #[.int .i64 q1, .int .i64 q2] 2) = A at hHeld hc0 hc1 ⊢
    generalize W5.heap.size = ab at hc0 hc1 ⊢
    try simp only [Act.put]
    try simp only [List.setIfInBounds_toArray]
    try simp only [List.set]
    refine wpAnyH_ready (rs := [7]) (by kernel_rfl) (by simp) ?_
    refine AllReadyH.cons rfl (fun K hK => ?_) AllReadyH.nil
    go_simp
    go_wp2_with (go_at_call 52; refine (or64_any ab q1 q2 _ hc0 hc1).mono ?_; rintro e W7 ⟨rfl, hw7⟩; subst W7)
    refine hK.out _ _ (hHeld) (fun hHeld => ?_)
    clear hK K
    clear hc0 hc1
    try simp only [Act.put]
    try simp only [List.setIfInBounds_toArray]
    try simp only [List.set]
    refine wpAnyH_take (i := 8) (v := ?v5) rfl (by kernel_rfl) (by kernel_rfl) (by kernel_rfl) (fun _ _ _ h => h) (Or.inl ⟨by kernel_rfl, ?h5⟩) hHeld ?_
    case h5 => intro u hSw; clear hSw; go_simp; try with_reducible rfl
    try simp only [List.getElem_toArray]
    try simp only [List.getElem_cons_succ]
    try simp only [List.getElem_cons_zero]
    try simp only [Act.put]
    try simp only [List.setIfInBounds_toArray]
    try simp only [List.set]
    refine wpAnyH_done (by kernel_rfl) ?_ _
    go_wp2_with fail
    go_meet
    case rel => exact ⟨rfl, hHeld⟩
  case rest =>
  clear hS
  obtain ⟨rfl, hS⟩ := hcut
  obtain ⟨q, hq⟩ : ∃ q, orI q1 q2 = q := ⟨_, rfl⟩
  have HOr : Hid (orI q1 q2 = q) := hq
  rw [hq]
  clear hq
  by_cases hq0 : q = 0
  · have d0 : (q != 0) = false := by simpa using hq0
    have hz : q1 = 0 ∧ q2 = 0 := by
      have := HOr.out
      rw [hq0] at this
      unfold orI at this
      split at this
      · exact ⟨by assumption, this⟩
      · next h => exact absurd this h
    have HQ1 : Hid (Q = if tk = true then 6 else 0) := by show _ = _; rw [HQ0.out, if_pos hz.1, if_pos hz.2]
    have hcn := HCn.out bb wc hS.g hS.b.1
    have g := hS.g
    clear HQ0 HOr hz HFf HTx HCn hS
    go_wp2_with (go_at_call 115; refine hcn.mono ?_)
    rintro e W ⟨rfl, gW⟩
    have g := g.trans (gW.mono g.size)
    clear hcn gW
    cases tk
    · have HX : Hid (Q = 0) := HQ1.out
      go_wp2_with fail
      go_ret
      exact ⟨by rw [HX.out]; rfl, g⟩
    · have HX : Hid (Q = 6) := HQ1.out
      go_wp2_with fail
      go_ret
      exact ⟨by rw [HX.out]; rfl, g⟩
  · have d0 : (q != 0) = true := by simpa using hq0
    have HX : Hid (Q = q) := by
      show _ = _
      have ho := HOr.out
      unfold orI at ho
      rw [HQ0.out]
      split at ho
      · next h => rw [if_pos h, if_neg (by rw [ho]; exact hq0), ho]
      · next h => rw [if_neg h, ho]
    have g := hS.g
    clear hS HQ0 HOr HFf HTx HCn
    go_wp2_with fail
    go_ret
    exact ⟨by rw [HX.out]; rfl, g⟩

end Go.Proofs.Ytonngopnhpmjaaa
