/-
  The law FnExactCrashLog answers true at all arguments.
-/
import Derived.Test.YtcjkjenebnodbaaCrl
import Derived.Test.YtcjkjenebnodbaaLyw
import Derived.Test.YtcjkjenebnodbaaRdl
namespace Go.Proofs.Ytcjkjenebnodbaa
open Go.RowKit
set_option linter.unusedVariables false

set_option maxHeartbeats 4000000 in
theorem lawFnExactCrashLog_fits (x y : Option Addr) (xs ys : List Int) (c d : Nat) (k : Int) (w : World) (hn : xs.length ≤ 9223372036854775807) (hm : ys.length ≤ 9223372036854775807) (hx : Reads w x xs) (hy : Reads w y ys) (hxb : ∀ z ∈ xs, 0 ≤ z ∧ z ≤ 255) (hyb : ∀ z ∈ ys, 0 ≤ z ∧ z ≤ 255) :
    Calls Try.prog 12 #[.agg #[.slice x xs.length c, .slice y ys.length d], .int .i64 k] w fun e w' => e = .returned (.bool true) ∧ Below w.heap.size w w' := by
  have HT : Hid (xs.length + ys.length ≤ 1048576 → ∀ X, Below w.heap.size w X → Calls Try.prog 55 #[.agg #[.slice x xs.length c, .slice y ys.length d]] X fun e w' => ∃ p q mid, e = .returned (.agg #[.slice p xs.length xs.length, .slice q ys.length ys.length]) ∧ Below X.heap.size X w' ∧ LogIn X.heap.size mid w'.heap.size w' p q xs ys) := fun hl X g => toLog_any x y xs ys xs.length c ys.length d X rfl rfl (by omega) (by omega) (hx.below g (Nat.le_refl _)) (hy.below g (Nat.le_refl _))
  obtain ⟨us, hus⟩ : ∃ us, us = crB xs ys k := ⟨_, rfl⟩
  obtain ⟨vs, hvs⟩ : ∃ vs, vs = ([] : List Int) := ⟨_, rfl⟩
  obtain ⟨q, hq⟩ : ∃ q, q = crQ xs ys k := ⟨_, rfl⟩
  have hul : us.length ≤ xs.length + ys.length := by rw [hus]; exact crB_len xs ys k
  have hvl : vs.length ≤ xs.length + ys.length := by rw [hvs]; exact Nat.zero_le _
  have HSp : Hid (xs.length + ys.length ≤ 1048576 → ∀ X (p r : Option Addr) (lo mid hi : Nat), LogIn lo mid hi X p r xs ys → Calls Try.prog 27 #[.agg #[.slice p xs.length xs.length, .slice r ys.length ys.length], .int .i64 k] X fun e w' => LgPost X q us vs e w') := fun hl X p r lo mid hi o => by rw [hq, hus, hvs]; exact specCrashLog_any p r xs ys _ _ k X (by omega) (by omega) (Nat.le_refl _) (Nat.le_refl _) hn hm o.s.reads o.l.reads hxb hyb
  have HI : Hid (xs.length + ys.length ≤ 1048576 → ∀ X (p r : Option Addr) (lo mid hi : Nat), LogIn lo mid hi X p r xs ys → Calls Try.prog 26 #[.agg #[.slice p xs.length xs.length, .slice r ys.length ys.length], .int .i64 k] X fun e w' => LgPost X q us vs e w') := fun hl X p r lo mid hi o => by rw [hq, hus, hvs]; exact implCrashLog_any p r xs ys _ _ k X (by omega) (by omega) (Nat.le_refl _) (Nat.le_refl _) hn hm o.s.reads o.l.reads hxb hyb
  clear hx hy hxb hyb hus hvs hq
  have HPo : Hid (∀ X e w', LgPost X q us vs e w' → ∃ p c r d mid, e = .returned (.agg #[.int .i64 q, .slice p us.length c, .slice r vs.length d]) ∧ Below X.heap.size X w' ∧ LogIn X.heap.size mid w'.heap.size w' p r us vs) := fun X e w' h => by
    obtain ⟨p, c, r, d, mid, h1, _, _, _, _, h2, h3⟩ := h
    exact ⟨p, c, r, d, mid, h1, h2, h3⟩
  obtain ⟨u, hu⟩ : ∃ u, us.length = u := ⟨_, rfl⟩
  obtain ⟨v, hv⟩ : ∃ v, vs.length = v := ⟨_, rfl⟩
  rw [hu] at HPo hul
  rw [hv] at HPo hvl
  have HU : Hid (us.length = u) := hu
  have HV : Hid (vs.length = v) := hv
  clear hu hv
  obtain ⟨n, hnn⟩ : ∃ n, xs.length = n := ⟨_, rfl⟩
  obtain ⟨m, hmm⟩ : ∃ m, ys.length = m := ⟨_, rfl⟩
  rw [hnn] at HT HSp HI hn hul hvl ⊢
  rw [hmm] at HT HSp HI hm hul hvl ⊢
  have HN : Hid (xs.length = n) := hnn
  have HM : Hid (ys.length = m) := hmm
  clear hnn hmm
  go_enter Try.func12, Try.ntmps12
  go_upto_region 1 with (fail)
  generalize hY : World.alloc w _ = Y
  have g : Below w.heap.size w Y := by rw [← hY]; go_grown
  have hB : LgAt Y w.heap.size x n c y m d := by rw [← hY]; exact ⟨by simp [go_sem], by simp [go_sem]⟩
  clear hY
  obtain ⟨c0, c1⟩ := hB
  have hB : LgAt Y w.heap.size x n c y m d := ⟨c0, c1⟩
  go_wp2_with fail
  refine (szLog_any x y n c m d _ hn hm).mono ?_
  rintro e w1 ⟨⟨r, rfl, hl⟩, g1⟩
  have hB := hB.up g1
  have g : Below w.heap.size w w1 := g.trans (g1.mono g.size)
  clear g1 c0 c1
  rcases hl with hl | ⟨h0, hl⟩
  · subst hl
    go_wp2_with fail
    go_ret
    exact ⟨rfl, g⟩
  have hl1 : n + m ≤ 1048576 := by omega
  have h0 : ¬ (r < 0) := by omega
  have hn2 : n ≤ 140737488351232 := by omega
  have hm2 : m ≤ 140737488351232 := by omega
  have hu2 : u ≤ 140737488351232 := by omega
  have hv2 : v ≤ 140737488351232 := by omega
  have hn3 : n ≤ 10000000 := by omega
  have hm3 : m ≤ 10000000 := by omega
  have hu3 : u ≤ 10000000 := by omega
  have hv3 : v ≤ 10000000 := by omega
  clear hl
  obtain ⟨c0, c1⟩ := hB
  have hB : LgAt w1 w.heap.size x n c y m d := ⟨c0, c1⟩
  go_wp2_with fail
  refine (HT.out hl1 _ g).mono ?_
  rintro e w2 ⟨p2, q2, mid2, rfl, g1, o2⟩
  have hB := hB.up g1
  have g : Below w.heap.size w w2 := g.trans (g1.mono g.size)
  clear g1 c0 c1
  go_wp2_with fail
  refine (HSp.out hl1 _ _ _ _ _ _ o2).mono ?_
  intro e w3 hp
  obtain ⟨p3, c3, r3, d3, m3, rfl, g1, y3⟩ := HPo.out _ _ _ hp
  have hB := hB.up g1
  have hs0 : w.heap.size ≤ w2.heap.size := g.size
  have y3 := y3.mono (lo' := w.heap.size) hs0 (Nat.le_refl _)
  have g : Below w.heap.size w w3 := g.trans (g1.mono g.size)
  clear g1 o2 hp hs0
  go_upto_region 6 with (fail)
  generalize hY : World.alloc w3 _ = Y3
  have gY : Below w3.heap.size w3 Y3 := by rw [← hY]; go_grown
  have b3 : L3 Y3 w3.heap.size q p3 u c3 r3 v d3 := by rw [← hY]; exact ⟨by simp [go_sem], by simp [go_sem], by simp [go_sem]⟩
  have hB := hB.up gY
  have y3 := y3.below gY
  have hs0 : w.heap.size ≤ w3.heap.size := g.size
  have hs1 : w3.heap.size < Y3.heap.size := World.block_lt_of_cell? Y3 _ b3.c0
  have g := g.trans (gY.mono g.size)
  clear hY gY
  generalize w3.heap.size = l1 at y3 b3 hs0 hs1 ⊢
  obtain ⟨c0, c1⟩ := hB
  have hB : LgAt Y3 w.heap.size x n c y m d := ⟨c0, c1⟩
  go_wp2_with fail
  refine (HT.out hl1 _ g).mono ?_
  rintro e w4 ⟨px, qx, mx, rfl, g1, yx⟩
  have hB := hB.up g1
  have b3 := b3.up g1
  have y3 := y3.below g1
  have hs2 := g1.size
  have g := g.trans (g1.mono g.size)
  clear g1 c0 c1
  generalize Y3.heap.size = l2 at yx hs1 hs2
  go_upto_region 7 with (fail)
  generalize hY : World.alloc w4 _ = Y4
  have gY : Below w4.heap.size w4 Y4 := by rw [← hY]; go_grown
  have bx : LgAt Y4 w4.heap.size px n n qx m m := by rw [← hY]; exact ⟨by simp [go_sem], by simp [go_sem]⟩
  have hB := hB.up gY
  have b3 := b3.up gY
  have y3 := y3.below gY
  have yx := yx.below gY
  have hs3 : w4.heap.size < Y4.heap.size := World.block_lt_of_cell? Y4 _ bx.c0
  have g := g.trans (gY.mono g.size)
  clear hY gY
  generalize w4.heap.size = l3 at yx bx hs2 hs3 ⊢
  obtain ⟨c0, c1⟩ := bx
  have bx : LgAt Y4 l3 px n n qx m m := ⟨c0, c1⟩
  go_wp2_with fail
  refine (HI.out hl1 _ _ _ _ _ _ yx).mono ?_
  intro e w5 hp
  obtain ⟨p5, c5, r5, d5, m5, rfl, g1, y5⟩ := HPo.out _ _ _ hp
  have hB := hB.up g1
  have b3 := b3.up g1
  have y3 := y3.below g1
  have yx := yx.below g1
  have bx := bx.up g1
  have hs4 := g1.size
  have g := g.trans (g1.mono g.size)
  clear g1 c0 c1 hp
  generalize Y4.heap.size = l4 at y5 hs3 hs4
  go_upto_region 8 with (fail)
  generalize hY : World.alloc w5 _ = Y5
  have gY : Below w5.heap.size w5 Y5 := by rw [← hY]; go_grown
  have hHeld : LyS w x y n c m d q us vs u v p3 r3 c3 d3 px qx xs ys p5 r5 c5 d5 us vs l1 l2 l3 l4 w5.heap.size m3 mx m5 Y5 :=
    ⟨hB.up gY, y3.below gY, b3.up gY, yx.below gY, bx.up gY, y5.below gY, by rw [← hY]; exact ⟨by simp [go_sem], by simp [go_sem], by simp [go_sem]⟩, hs0, hs1, hs2, hs3, hs4, g.trans (gY.mono g.size)⟩
  clear hY gY hB y3 b3 yx bx y5 g hs0 hs1 hs2 hs3 hs4
  generalize w5.heap.size = l5 at hHeld ⊢
  obtain ⟨x0, x1, x2⟩ := hHeld.b3
  obtain ⟨y0, y1, y2⟩ := hHeld.b5
  go_wp2_with fail
  refine (eqLogResult_same q _ _ _ _ us vs _ _ _ _ _ _ _ _ _ _ _ _ _ HU.out HV.out hu2 hv2 hHeld.y5 hHeld.y3).mono ?_
  rintro e w6 ⟨rfl, g1⟩
  have hHeld := hHeld.up g1
  clear g1 x0 x1 x2 y0 y1 y2
  go_wp2_with fail
  refine wp_region_held_drew (S := fun V => LyS w x y n c m d q us vs u v p3 r3 c3 d3 px qx xs ys p5 r5 c5 d5 us vs l1 l2 l3 l4 l5 m3 mx m5 V) (by kernel_rfl) (hHeld.up (Below.refl _ _).drew) (fun hHeld => ?_)
  generalize w6.drew = D at hHeld ⊢
  refine wpAnyH_take (i := 0) (v := ?v4) rfl (by kernel_rfl) (by kernel_rfl) (by kernel_rfl) (fun _ _ _ h => h) (Or.inl ⟨by kernel_rfl, ?h4⟩) hHeld ?_
  case h4 => intro u hSw; obtain ⟨q0, q1⟩ := hSw.bx; clear hSw; go_simp; try with_reducible rfl
  try simp only [List.getElem_toArray]
  try simp only [List.getElem_cons_succ]
  try simp only [List.getElem_cons_zero]
  try simp only [Act.put]
  try simp only [List.setIfInBounds_toArray]
  try simp only [List.set]
  refine wpAnyH_take (i := 1) (v := ?v5) rfl (by kernel_rfl) (by kernel_rfl) (by kernel_rfl) (fun _ _ _ h => h) (Or.inl ⟨by kernel_rfl, ?h5⟩) hHeld ?_
  case h5 => intro u hSw; obtain ⟨q0, q1⟩ := hSw.r0; clear hSw; go_simp; try with_reducible rfl
  try simp only [List.getElem_toArray]
  try simp only [List.getElem_cons_succ]
  try simp only [List.getElem_cons_zero]
  try simp only [Act.put]
  try simp only [List.setIfInBounds_toArray]
  try simp only [List.set]
  refine wpAnyH_ready (rs := [2]) (by kernel_rfl) (by simp) ?_
  refine AllReadyH.cons rfl (fun K hK => ?_) AllReadyH.nil
  go_simp
  go_wp2_with (go_at_call 55; refine (HT.out hl1 _ hHeld.gb).mono ?_; rintro e w8 ⟨p8, q8, mid8, rfl, hb, o8⟩)
  refine hK.out _ _ (hHeld.up hb) (fun hHeld => ?_)
  clear hK K
  clear hb
  try simp only [Act.put]
  try simp only [List.setIfInBounds_toArray]
  try simp only [List.set]
  refine wpAnyH_ready (rs := [3]) (by kernel_rfl) (by simp) ?_
  refine AllReadyH.cons rfl (fun K hK => ?_) AllReadyH.nil
  go_simp
  go_wp2_with (go_at_call 56; refine (eqLog_same _ _ _ _ xs ys _ _ _ _ _ _ _ _ _ _ _ _ _ HN.out HM.out hn2 hm2 hHeld.yx o8).mono ?_; rintro e w9 ⟨rfl, hb⟩)
  refine hK.out _ _ (hHeld.up hb) (fun hHeld => ?_)
  clear hK K
  clear hb o8
  try simp only [Act.put]
  try simp only [List.setIfInBounds_toArray]
  try simp only [List.set]
  refine wpAnyH_take (i := 4) (v := ?v6) rfl (by kernel_rfl) (by kernel_rfl) (by kernel_rfl) (fun _ _ _ h => h) (Or.inl ⟨by kernel_rfl, ?h6⟩) hHeld ?_
  case h6 => intro u hSw; (try dsimp only at hSw); go_simp; try with_reducible rfl
  try simp only [List.getElem_toArray]
  try simp only [List.getElem_cons_succ]
  try simp only [List.getElem_cons_zero]
  try simp only [Act.put]
  try simp only [List.setIfInBounds_toArray]
  try simp only [List.set]
  refine wpAnyH_done (by kernel_rfl) ?_ _
  obtain ⟨q0, q1⟩ := hHeld.bx
  have hsz3 := Nat.le_of_lt (World.block_lt_of_cell? _ _ q0)
  go_wp2_with fail
  refine (markLog_any px qx xs ys n n m m _ _ _ 1 _ HN.out HM.out hn3 hm3 (by omega) (by omega) hsz3 hHeld.yx).mono ?_
  rintro e w10 ⟨rfl, t1, yx'⟩
  have hHeld := hHeld.markX t1 yx'
  clear t1 yx' q0 q1 hsz3
  have hpos : ¬ (1 + (n : Int) + (m : Int) < 0) := by omega
  have dpos : decide (1 + (n : Int) + (m : Int) < 0) = false := by simpa using hpos
  obtain ⟨x0, x1, x2⟩ := hHeld.b3
  obtain ⟨y0, y1, y2⟩ := hHeld.b5
  go_wp2_with fail
  refine (eqLogResult_same q _ _ _ _ us vs _ _ _ _ _ _ _ _ _ _ _ _ _ HU.out HV.out hu2 hv2 hHeld.y5 hHeld.y3).mono ?_
  rintro e w11 ⟨rfl, g1⟩
  have hHeld := hHeld.up g1
  clear g1 x0 x1 x2 y0 y1 y2
  obtain ⟨y0, y1, y2⟩ := hHeld.b5
  have hsz5 := Nat.le_of_lt (World.block_lt_of_cell? _ _ y0)
  go_wp2_with fail
  refine (markLogResult_any q p5 r5 us vs u c5 v d5 _ _ _ 1 _ HU.out HV.out hu3 hv3 (by omega) (by omega) hsz5 hHeld.y5).mono ?_
  rintro e w12 ⟨rfl, t1, y5'⟩
  have hHeld := hHeld.markB t1 y5'
  clear t1 y5' y0 y1 y2 hsz5
  have hpos2 : ¬ (1 + (u : Int) + (v : Int) < 0) := by omega
  obtain ⟨y0, y1, y2⟩ := hHeld.b5
  go_wp2_with fail
  refine (heldLogResult_any q p5 r5 us vs u c5 v d5 _ _ _ 1 _ HU.out HV.out hu3 hv3 (by omega) (by omega) hHeld.y5).mono ?_
  rintro e w13 ⟨rfl, g1⟩
  have hHeld := hHeld.up g1
  clear g1 y0 y1 y2
  obtain ⟨c0, c1⟩ := hHeld.r0
  go_wp2_with fail
  refine (HT.out hl1 _ hHeld.gb).mono ?_
  rintro e w14 ⟨p14, q14, m14, rfl, g1, o14⟩
  have hHeld := hHeld.up g1
  clear g1 c0 c1
  go_wp2_with fail
  refine (HI.out hl1 _ _ _ _ _ _ o14).mono ?_
  intro e w15 hp
  obtain ⟨p15, c15, r15, d15, m15, rfl, g1, y15⟩ := HPo.out _ _ _ hp
  have hHeld := hHeld.up g1
  clear g1 o14 hp
  obtain ⟨x0, x1, x2⟩ := hHeld.b3
  have hlt : l1 < w15.heap.size := World.block_lt_of_cell? w15 _ x0
  go_wp2_with fail
  refine (eqLogResult_same q _ _ _ _ us vs _ _ _ _ _ _ _ _ _ _ _ _ _ HU.out HV.out hu2 hv2 (y15.below (by go_grown)) (hHeld.up (by go_grown)).y3).mono ?_
  rintro e w16 ⟨rfl, g1⟩
  have hHeld := hHeld.up (Below.trans (by go_grown) (g1.mono (by simp)))
  clear g1 x0 x1 x2 hlt y15
  obtain ⟨y0, y1, y2⟩ := hHeld.b5
  go_wp2_with fail
  refine (heldLogResult_any q p5 r5 us vs u c5 v d5 _ _ _ 1 _ HU.out HV.out hu3 hv3 (by omega) (by omega) hHeld.y5).mono ?_
  rintro e w17 ⟨rfl, g1⟩
  have hHeld := hHeld.up g1
  have gE := hHeld.gb
  clear g1 y0 y1 y2 hHeld
  go_wp2_with fail
  go_ret
  exact ⟨rfl, gE⟩

theorem lawFnExactCrashLog_any (x : Option Addr) (n c : Nat) (zs : List Int) (y : Option Addr) (m d : Nat) (us : List Int) (k : Int) (w : World) (h : IsRow .u8 w x n c zs) (hk : IsRow .u8 w y m d us) (hw : (Lit.int .i64 k).wf = true) :
    Calls Try.prog 12 #[.agg #[.slice x n c, .slice y m d], .int .i64 k] w fun e w' => e = .returned (.bool true) ∧ Below w.heap.size w w' := by
  obtain ⟨hn, _, hr, hz⟩ := isRow_reads h
  obtain ⟨hm, _, kr, kz⟩ := isRow_reads hk
  have h1 := isRow_small h
  have h2 := isRow_small hk
  have := lawFnExactCrashLog_fits x y (zs.take n) (us.take m) c d k w (by omega) (by omega) hr kr hz kz
  rw [hn, hm] at this
  exact this

end Go.Proofs.Ytcjkjenebnodbaa
