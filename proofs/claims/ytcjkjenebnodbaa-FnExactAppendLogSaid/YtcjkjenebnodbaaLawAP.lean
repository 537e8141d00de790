/-
  The law FnExactAppendLog answers true at all arguments.
-/
import Derived.Test.YtcjkjenebnodbaaLax
import Derived.Test.YtcjkjenebnodbaaRdl
namespace Go.Proofs.Ytcjkjenebnodbaa
open Go.RowKit
set_option linter.unusedVariables false

set_option maxRecDepth 10000 in
set_option maxHeartbeats 8000000 in
theorem lawAppendLog_fits (x y : Option Addr) (xs ys : List Int) (c d : Nat) (k tx pg : Int) (a : Option Addr) (l e' : Nat) (P : Nat → Int) (A : Nat → Option Addr) (C : Nat → Nat) (Z : Nat → List Int) (w : World) (hn : xs.length ≤ 9223372036854775807) (hm : ys.length ≤ 9223372036854775807) (hx : Reads w x xs) (hy : Reads w y ys) (hxb : ∀ z ∈ xs, 0 ≤ z ∧ z ≤ 255) (hyb : ∀ z ∈ ys, 0 ≤ z ∧ z ≤ 255) (hir : IsRuns w a l P A C Z) :
    Calls Try.prog 10 #[.agg #[.slice x xs.length c, .slice y ys.length d], .agg #[.int .i64 k, .int .i64 tx, .int .i64 pg, .slice a l e']] w fun e w' => e = .returned (.bool true) ∧ Below w.heap.size w w' := by
  have hlm := hir.ln
  have HZl : Hid (∀ i, i < l → (Z i).length ≤ 9223372036854775807) := hir.zl
  have HRr : Hid (RunsRead w a l P A C Z) := hir.rd
  have HZs : l + took Z l ≤ 1048576 → Hid (∀ i, i < l → (Z i).length ≤ 1048576) := fun h i hi => by have := took_one Z i l hi; omega
  have HZb : Hid (∀ i, i < l → ∀ z ∈ Z i, 0 ≤ z ∧ z ≤ 255) := hir.zb
  have HT : Hid (xs.length + ys.length ≤ 1048576 → ∀ X, Below w.heap.size w X → Calls Try.prog 55 #[.agg #[.slice x xs.length c, .slice y ys.length d]] X fun e w' => ∃ p q mid, e = .returned (.agg #[.slice p xs.length xs.length, .slice q ys.length ys.length]) ∧ Below X.heap.size X w' ∧ LogIn X.heap.size mid w'.heap.size w' p q xs ys) := fun hl X g => toLog_any x y xs ys xs.length c ys.length d X rfl rfl (by omega) (by omega) (hx.below g (Nat.le_refl _)) (hy.below g (Nat.le_refl _))
  have HTr : Hid (l + took Z l ≤ 1048576 → ∀ X, Below w.heap.size w X → Calls Try.prog 32 #[.agg #[.int .i64 k, .int .i64 tx, .int .i64 pg, .slice a l e']] X fun e w' => ∃ b A' F', e = .returned (.agg #[.int .i64 k, .int .i64 tx, .int .i64 pg, .slice (some ⟨b, 0, none⟩) l l]) ∧ Below X.heap.size X w' ∧ Own X.heap.size w'.heap.size w' b l P A' (fun i => (Z i).length) Z F') := fun hl X g => toRecord_any k tx pg a l e' P A C Z X hl (hir.rd.below g (Nat.le_refl _))
  obtain ⟨us, hus⟩ : ∃ us, us = alS xs ys (recQ k tx pg l P Z) (pkB k tx pg l P Z) := ⟨_, rfl⟩
  obtain ⟨vs, hvs⟩ : ∃ vs, vs = alL xs ys (recQ k tx pg l P Z) (pkB k tx pg l P Z) := ⟨_, rfl⟩
  obtain ⟨q, hq⟩ : ∃ q, q = alQ xs ys (recQ k tx pg l P Z) (pkB k tx pg l P Z) := ⟨_, rfl⟩
  have hpk : (pkB k tx pg l P Z).length ≤ 255 := pkB_small hir.zb
  have hul : us.length ≤ xs.length + ys.length + 255 := by rw [hus]; have := (al_len xs ys (recQ k tx pg l P Z) (pkB k tx pg l P Z)).1; omega
  have hvl : vs.length ≤ xs.length + ys.length + 255 := by rw [hvs]; have := (al_len xs ys (recQ k tx pg l P Z) (pkB k tx pg l P Z)).2; omega
  have HSp : Hid (xs.length + ys.length ≤ 1048576 → l + took Z l ≤ 1048576 → ∀ X (p r : Option Addr) (lo mid hi : Nat) (b : Nat) (A' : Nat → Option Addr) (C' : Nat → Nat) (F' : Nat → Nat) (lo' hi' : Nat), LogIn lo mid hi X p r xs ys → Own lo' hi' X b l P A' C' Z F' → Calls Try.prog 22 #[.agg #[.slice p xs.length xs.length, .slice r ys.length ys.length], .agg #[.int .i64 k, .int .i64 tx, .int .i64 pg, .slice (some ⟨b, 0, none⟩) l l]] X fun e w' => ∃ p c r d mid, e = .returned (.agg #[.int .i64 q, .slice p us.length c, .slice r vs.length d]) ∧ Below X.heap.size X w' ∧ LogIn X.heap.size mid w'.heap.size w' p r us vs) := fun h1 h2 X p r lo mid hi b A' C' F' lo' hi' o o2 => by
    rw [hq, hus, hvs]
    refine (specAppendLog_any p r xs ys _ _ k tx pg _ l l P A' C' Z X (by omega) (by omega) (Nat.le_refl _) (Nat.le_refl _) hn hm o.s.reads o.l.reads hxb hyb (by omega) (HZs h2) HZb o2.reads).mono ?_
    rintro e w' ⟨p, c, r, d, mid, h1, _, _, _, _, h2, h3⟩
    exact ⟨p, c, r, d, mid, h1, h2, h3⟩
  have HI : Hid (xs.length + ys.length ≤ 1048576 → l + took Z l ≤ 1048576 → ∀ X (p r : Option Addr) (lo mid hi : Nat) (b : Nat) (A' : Nat → Option Addr) (C' : Nat → Nat) (F' : Nat → Nat) (lo' hi' : Nat), LogIn lo mid hi X p r xs ys → Own lo' hi' X b l P A' C' Z F' → Calls Try.prog 21 #[.agg #[.slice p xs.length xs.length, .slice r ys.length ys.length], .agg #[.int .i64 k, .int .i64 tx, .int .i64 pg, .slice (some ⟨b, 0, none⟩) l l]] X fun e w' => ∃ p c r d mid, e = .returned (.agg #[.int .i64 q, .slice p us.length c, .slice r vs.length d]) ∧ Below X.heap.size X w' ∧ LogIn X.heap.size mid w'.heap.size w' p r us vs) := fun h1 h2 X p r lo mid hi b A' C' F' lo' hi' o o2 => by
    rw [hq, hus, hvs]
    refine (implAppendLog_any p r xs ys _ _ k tx pg _ l l P A' C' Z X (by omega) (by omega) (Nat.le_refl _) (Nat.le_refl _) hn hm o.s.reads o.l.reads hxb hyb (fun hp => by
      rcases o.s.reads with h | ⟨_, _, h, _⟩
      · rw [h]; rfl
      · rw [hp] at h; cases h) (by omega) (HZs h2) HZb o2.reads).mono ?_
    rintro e w' ⟨p, c, r, d, mid, h1, _, _, _, _, h2, h3⟩
    exact ⟨p, c, r, d, mid, h1, h2, h3⟩
  clear hx hy hxb hyb hus hvs hq hir hpk HZs
  obtain ⟨u, hu⟩ : ∃ u, us.length = u := ⟨_, rfl⟩
  obtain ⟨v, hv⟩ : ∃ v, vs.length = v := ⟨_, rfl⟩
  rw [hu, hv] at HSp HI
  rw [hu] at hul
  rw [hv] at hvl
  have HU : Hid (us.length = u) := hu
  have HV : Hid (vs.length = v) := hv
  clear hu hv
  obtain ⟨n, hnn⟩ : ∃ n, xs.length = n := ⟨_, rfl⟩
  obtain ⟨m, hmm⟩ : ∃ m, ys.length = m := ⟨_, rfl⟩
  rw [hnn] at HT HSp HI hn hul hvl ⊢
  rw [hmm] at HT HSp HI hm hul hvl ⊢
  have HN : Hid (xs.length = n) := hnn
  have HM : Hid (ys.length = m) := hmm
  clear hnn hmm
  go_enter Try.func10, Try.ntmps10
  go_upto_region 1 with (fail)
  generalize hY : World.alloc _ _ = Y
  have hA : LaA w x y n c m d k tx pg a l e' Y := by rw [← hY]; exact ⟨⟨by simp [go_sem], by simp [go_sem]⟩, ⟨by simp [go_sem], by simp [go_sem], by simp [go_sem], by simp [go_sem]⟩, by go_grown⟩
  clear hY
  obtain ⟨c0, c1⟩ := hA.r0
  go_wp2_with fail
  refine (szLog_any x y n c m d _ hn hm).mono ?_
  rintro e w1 ⟨⟨r, rfl, hl⟩, g1⟩
  have hA := hA.up g1
  clear g1 c0 c1
  rcases hl with hl | ⟨h0, hl⟩
  · subst hl
    have g := hA.g
    go_wp2_with fail
    go_ret
    exact ⟨rfl, g⟩
  have hl1 : n + m ≤ 1048576 := by omega
  have hr1 : r ≤ 1048576 := by omega
  have h0' : ¬ (r < 0) := by omega
  clear hl
  obtain ⟨c0, c1, c2, c3⟩ := hA.rc
  go_wp2_with fail
  refine (szRecord_gen k tx pg a l e' P A C Z r _ h0 hr1 hlm HZl.out (HRr.out.below hA.g (Nat.le_refl _))).mono ?_
  rintro e w2 ⟨⟨r2, rfl, hl⟩, g1⟩
  have hA := hA.up g1
  clear g1 c0 c1 c2 c3
  rcases hl with hl | ⟨h2, hl⟩
  · subst hl
    have g := hA.g
    go_wp2_with fail
    go_ret
    exact ⟨rfl, g⟩
  have hl2 : l + took Z l ≤ 1048576 := by omega
  have h2' : ¬ (r2 < 0) := by omega
  have hn2 : n ≤ 140737488351232 := by omega
  have hm2 : m ≤ 140737488351232 := by omega
  have hu2 : u ≤ 140737488351232 := by omega
  have hv2 : v ≤ 140737488351232 := by omega
  have hn3 : n ≤ 10000000 := by omega
  have hm3 : m ≤ 10000000 := by omega
  have hu3 : u ≤ 10000000 := by omega
  have hv3 : v ≤ 10000000 := by omega
  clear hl
  go_upto_region 8 with (fail)
  go_cut [6] from 14 (fun s6 wc => ∃ (lb : Nat) (p3 : Option Addr) (c3 : Nat) (r3 : Option Addr) (d3 m3 : Nat), s6 = .pointer (some ⟨lb, 0, none⟩) ∧ LaA w x y n c m d k tx pg a l e' wc ∧ L3 wc lb q p3 u c3 r3 v d3 ∧ LogIn w.heap.size m3 wc.heap.size wc p3 r3 us vs ∧ lb < wc.heap.size)
  case first =>
    refine wp_region_held_drew (S := fun V => LaA w x y n c m d k tx pg a l e' V) (by kernel_rfl) (hA.up (Below.refl _ _).drew) (fun hHeld => ?_)
    generalize w2.drew = D at hHeld ⊢
    clear hA
    refine wpAnyH_take (i := 0) (v := ?v1) rfl (by kernel_rfl) (by kernel_rfl) (by kernel_rfl) (fun _ _ _ h => h) (Or.inl ⟨by kernel_rfl, ?h1⟩) hHeld ?_
    case h1 => intro u hSw; obtain ⟨q0, q1⟩ := hSw.r0; clear hSw; go_simp; try with_reducible rfl
    try simp only [List.getElem_toArray]
    try simp only [List.getElem_cons_succ]
    try simp only [List.getElem_cons_zero]
    try simp only [Act.put]
    try simp only [List.setIfInBounds_toArray]
    try simp only [List.set]
    refine wpAnyH_take (i := 2) (v := ?v2) rfl (by kernel_rfl) (by kernel_rfl) (by kernel_rfl) (fun _ _ _ h => h) (Or.inl ⟨by kernel_rfl, ?h2⟩) hHeld ?_
    case h2 => intro u hSw; obtain ⟨q0, q1, q2, q3⟩ := hSw.rc; clear hSw; go_simp; try with_reducible rfl
    try simp only [List.getElem_toArray]
    try simp only [List.getElem_cons_succ]
    try simp only [List.getElem_cons_zero]
    try simp only [Act.put]
    try simp only [List.setIfInBounds_toArray]
    try simp only [List.set]
    refine wpAnyH_ready (rs := [1, 5]) (by kernel_rfl) (by simp) ?_
    refine AllReadyH.cons rfl (fun K hK => ?_) (AllReadyH.cons rfl (fun K hK => ?_) AllReadyH.nil)
    · go_simp
      go_wp2_with (go_at_call 55; refine (HT.out hl1 _ hHeld.g).mono ?_; rintro e W1 ⟨p1, q1, mid1, rfl, gg, o1⟩)
      refine hK.out _ _ (hHeld.up gg) (fun hHeld => ?_)
      clear hK K
      clear gg
      try simp only [Act.put]
      try simp only [List.setIfInBounds_toArray]
      try simp only [List.set]
      refine wpAnyH_ready (rs := [3, 5]) (by kernel_rfl) (by simp) ?_
      refine AllReadyH.cons rfl (fun K hK => ?_) (AllReadyH.cons rfl (fun K hK => ?_) AllReadyH.nil)
      · go_simp
        go_wp2_with (go_at_call 32; refine (HTr.out hl2 _ hHeld.g).mono ?_; rintro e W2 ⟨br1, AR1, FR1, rfl, gg, o2⟩)
        refine hK.out _ _ (hHeld.up gg) (fun hHeld => ?_)
        clear hK K
        have o1 := o1.below gg
        clear gg
        try simp only [Act.put]
        try simp only [List.setIfInBounds_toArray]
        try simp only [List.set]
        refine wpAnyH_ready (rs := [4, 5]) (by kernel_rfl) (by simp) ?_
        refine AllReadyH.cons rfl (fun K hK => ?_) (AllReadyH.cons rfl (fun K hK => ?_) AllReadyH.nil)
        · have hlow := hHeld.lt
          go_simp
          go_wp2_with (go_at_call 22; refine (HSp.out hl1 hl2 _ _ _ _ _ _ _ _ _ _ _ _ o1 o2).mono ?_; rintro e W3 ⟨p3, c3, r3, d3, m3, rfl, gg, y3⟩)
          refine hK.out _ _ (hHeld.up gg) (fun hHeld => ?_)
          clear hK K
          have o1 := o1.below gg
          have o2 := o2.below gg
          have hgs := gg.size
          have hle : W3.heap.size ≤ W3.heap.size := Nat.le_refl _
          generalize hlo : W2.heap.size = lo at y3 hlow hgs 
          generalize hhi : W3.heap.size = hi at y3 hgs hle
          have hle : hi ≤ W3.heap.size := by omega
          clear hhi hlo
          clear gg
          try simp only [Act.put]
          try simp only [List.setIfInBounds_toArray]
          try simp only [List.set]
          refine wpAnyH_ready (rs := [5]) (by kernel_rfl) (by simp) ?_
          refine AllReadyH.cons rfl (fun K hK => ?_) AllReadyH.nil
          have gg : Below W3.heap.size W3 (W3.alloc (.cells #[.int .i64 0, .slice none 0 0, .slice none 0 0] 40)) := by go_grown
          have hab2 : w.heap.size + 2 ≤ W3.heap.size := hHeld.lt
          have hB : A3 w W3.heap.size (W3.alloc (.cells #[.int .i64 0, .slice none 0 0, .slice none 0 0] 40)) := ⟨by simp [go_sem], by simp [go_sem], by simp [go_sem], by simp [go_sem], by simp [go_sem], by simp [go_sem], (hHeld.up gg).g⟩
          have hpos : hi ≤ W3.heap.size ∨ W3.heap.size + 1 ≤ lo := .inl (by omega)
          go_simp
          refine hK.out _ _ (hHeld.up gg) (fun hHeld => ?_)
          clear hK K
          have y3 := y3.below gg
          clear gg
          generalize W3.alloc (.cells #[.int .i64 0, .slice none 0 0, .slice none 0 0] 40) = W4 at hHeld hB y3 ⊢
          generalize hab : W3.heap.size = ab at hB hab2 hpos hle ⊢
          clear hab
          try simp only [Act.put]
          try simp only [List.setIfInBounds_toArray]
          try simp only [List.set]
          have T : Turned ab (ab + 1) W4 (((W4.setCell ⟨ab, 0, none⟩ (.int .i64 q)).setCell ⟨ab, 1, none⟩ (.slice p3 u c3)).setCell ⟨ab, 2, none⟩ (.slice r3 v d3)) := (((Turned.refl _ _ W4).setCell (p := ⟨ab, 0, none⟩) (Nat.le_refl _) (Nat.lt_succ_self _) _).setCell (p := ⟨ab, 1, none⟩) (Nat.le_refl _) (Nat.lt_succ_self _) _).setCell (p := ⟨ab, 2, none⟩) (Nat.le_refl _) (Nat.lt_succ_self _) _
          have habl := hB.lt
          obtain ⟨a0, a1, a2, f0, f1, f2, _⟩ := hB
          refine wpAnyH_ready (rs := [6]) (by kernel_rfl) (by simp) ?_
          refine AllReadyH.cons rfl (fun K hK => ?_) AllReadyH.nil
          go_simp
          refine hK.out _ _ (hHeld.turned T hab2) (fun hHeld => ?_)
          clear hK K
          try simp only [Act.put]
          try simp only [List.setIfInBounds_toArray]
          try simp only [List.set]
          refine wpAnyH_done (by kernel_rfl) ?_ _
          have b3 : L3 (((W4.setCell ⟨ab, 0, none⟩ (.int .i64 q)).setCell ⟨ab, 1, none⟩ (.slice p3 u c3)).setCell ⟨ab, 2, none⟩ (.slice r3 v d3)) ab q p3 u c3 r3 v d3 := ⟨by simp [go_sem, a0], by simp [go_sem, a1], by simp [go_sem, a2]⟩
          have y3 := (y3.turned T hpos).mono (lo' := w.heap.size) (hi' := W4.heap.size) (by omega) (by omega)
          have hsz : ab < (((W4.setCell ⟨ab, 0, none⟩ (.int .i64 q)).setCell ⟨ab, 1, none⟩ (.slice p3 u c3)).setCell ⟨ab, 2, none⟩ (.slice r3 v d3)).heap.size := by rw [World.size_setCell, World.size_setCell, World.size_setCell]; exact habl
          have y3 := y3.mono (lo' := w.heap.size) (hi' := (((W4.setCell ⟨ab, 0, none⟩ (.int .i64 q)).setCell ⟨ab, 1, none⟩ (.slice p3 u c3)).setCell ⟨ab, 2, none⟩ (.slice r3 v d3)).heap.size) (Nat.le_refl _) T.size
          go_wp2_with fail
          go_meet
          case rel => exact ⟨ab, p3, c3, r3, d3, m3, rfl, hHeld, b3, y3, hsz⟩
        · have gg : Below W2.heap.size W2 (W2.alloc (.cells #[.int .i64 0, .slice none 0 0, .slice none 0 0] 40)) := by go_grown
          have hab2 : w.heap.size + 2 ≤ W2.heap.size := hHeld.lt
          have hB : A3 w W2.heap.size (W2.alloc (.cells #[.int .i64 0, .slice none 0 0, .slice none 0 0] 40)) := ⟨by simp [go_sem], by simp [go_sem], by simp [go_sem], by simp [go_sem], by simp [go_sem], by simp [go_sem], (hHeld.up gg).g⟩
          go_simp
          refine hK.out _ _ (hHeld.up gg) (fun hHeld => ?_)
          clear hK K
          have o1 := o1.below gg
          have o2 := o2.below gg
          clear gg
          generalize W2.alloc (.cells #[.int .i64 0, .slice none 0 0, .slice none 0 0] 40) = W5 at hHeld hB o1 o2 ⊢
          generalize W2.heap.size = ab at hB hab2  ⊢
          try simp only [Act.put]
          try simp only [List.setIfInBounds_toArray]
          try simp only [List.set]
          refine wpAnyH_ready (rs := [4]) (by kernel_rfl) (by simp) ?_
          refine AllReadyH.cons rfl (fun K hK => ?_) AllReadyH.nil
          have hposl := hB.lt
          have hlow := hHeld.lt
          go_simp
          go_wp2_with (go_at_call 22; refine (HSp.out hl1 hl2 _ _ _ _ _ _ _ _ _ _ _ _ o1 o2).mono ?_; rintro e W6 ⟨p3, c3, r3, d3, m3, rfl, gg, y3⟩)
          refine hK.out _ _ (hHeld.up gg) (fun hHeld => ?_)
          clear hK K
          have o1 := o1.below gg
          have o2 := o2.below gg
          have hB := hB.up gg
          have hgs := gg.size
          have hle : W6.heap.size ≤ W6.heap.size := Nat.le_refl _
          generalize hlo : W5.heap.size = lo at y3 hlow hgs hposl
          generalize hhi : W6.heap.size = hi at y3 hgs hle
          have hle : hi ≤ W6.heap.size := by omega
          clear hhi hlo
          have hpos : hi ≤ ab ∨ ab + 1 ≤ lo := .inr (by omega)
          clear gg
          try simp only [Act.put]
          try simp only [List.setIfInBounds_toArray]
          try simp only [List.set]
          have T : Turned ab (ab + 1) W6 (((W6.setCell ⟨ab, 0, none⟩ (.int .i64 q)).setCell ⟨ab, 1, none⟩ (.slice p3 u c3)).setCell ⟨ab, 2, none⟩ (.slice r3 v d3)) := (((Turned.refl _ _ W6).setCell (p := ⟨ab, 0, none⟩) (Nat.le_refl _) (Nat.lt_succ_self _) _).setCell (p := ⟨ab, 1, none⟩) (Nat.le_refl _) (Nat.lt_succ_self _) _).setCell (p := ⟨ab, 2, none⟩) (Nat.le_refl _) (Nat.lt_succ_self _) _
          have habl := hB.lt
          obtain ⟨a0, a1, a2, f0, f1, f2, _⟩ := hB
          refine wpAnyH_ready (rs := [6]) (by kernel_rfl) (by simp) ?_
          refine AllReadyH.cons rfl (fun K hK => ?_) AllReadyH.nil
          go_simp
          refine hK.out _ _ (hHeld.turned T hab2) (fun hHeld => ?_)
          clear hK K
          try simp only [Act.put]
          try simp only [List.setIfInBounds_toArray]
          try simp only [List.set]
          refine wpAnyH_done (by kernel_rfl) ?_ _
          have b3 : L3 (((W6.setCell ⟨ab, 0, none⟩ (.int .i64 q)).setCell ⟨ab, 1, none⟩ (.slice p3 u c3)).setCell ⟨ab, 2, none⟩ (.slice r3 v d3)) ab q p3 u c3 r3 v d3 := ⟨by simp [go_sem, a0], by simp [go_sem, a1], by simp [go_sem, a2]⟩
          have y3 := (y3.turned T hpos).mono (lo' := w.heap.size) (hi' := W6.heap.size) (by omega) (by omega)
          have hsz : ab < (((W6.setCell ⟨ab, 0, none⟩ (.int .i64 q)).setCell ⟨ab, 1, none⟩ (.slice p3 u c3)).setCell ⟨ab, 2, none⟩ (.slice r3 v d3)).heap.size := by rw [World.size_setCell, World.size_setCell, World.size_setCell]; exact habl
          have y3 := y3.mono (lo' := w.heap.size) (hi' := (((W6.setCell ⟨ab, 0, none⟩ (.int .i64 q)).setCell ⟨ab, 1, none⟩ (.slice p3 u c3)).setCell ⟨ab, 2, none⟩ (.slice r3 v d3)).heap.size) (Nat.le_refl _) T.size
          go_wp2_with fail
          go_meet
          case rel => exact ⟨ab, p3, c3, r3, d3, m3, rfl, hHeld, b3, y3, hsz⟩
      · have gg : Below W1.heap.size W1 (W1.alloc (.cells #[.int .i64 0, .slice none 0 0, .slice none 0 0] 40)) := by go_grown
        have hab2 : w.heap.size + 2 ≤ W1.heap.size := hHeld.lt
        have hB : A3 w W1.heap.size (W1.alloc (.cells #[.int .i64 0, .slice none 0 0, .slice none 0 0] 40)) := ⟨by simp [go_sem], by simp [go_sem], by simp [go_sem], by simp [go_sem], by simp [go_sem], by simp [go_sem], (hHeld.up gg).g⟩
        go_simp
        refine hK.out _ _ (hHeld.up gg) (fun hHeld => ?_)
        clear hK K
        have o1 := o1.below gg
        clear gg
        generalize W1.alloc (.cells #[.int .i64 0, .slice none 0 0, .slice none 0 0] 40) = W7 at hHeld hB o1 ⊢
        generalize W1.heap.size = ab at hB hab2  ⊢
        try simp only [Act.put]
        try simp only [List.setIfInBounds_toArray]
        try simp only [List.set]
        refine wpAnyH_ready (rs := [3]) (by kernel_rfl) (by simp) ?_
        refine AllReadyH.cons rfl (fun K hK => ?_) AllReadyH.nil
        go_simp
        go_wp2_with (go_at_call 32; refine (HTr.out hl2 _ hHeld.g).mono ?_; rintro e W8 ⟨br1, AR1, FR1, rfl, gg, o2⟩)
        refine hK.out _ _ (hHeld.up gg) (fun hHeld => ?_)
        clear hK K
        have o1 := o1.below gg
        have hB := hB.up gg
        clear gg
        try simp only [Act.put]
        try simp only [List.setIfInBounds_toArray]
        try simp only [List.set]
        refine wpAnyH_ready (rs := [4]) (by kernel_rfl) (by simp) ?_
        refine AllReadyH.cons rfl (fun K hK => ?_) AllReadyH.nil
        have hposl := hB.lt
        have hlow := hHeld.lt
        go_simp
        go_wp2_with (go_at_call 22; refine (HSp.out hl1 hl2 _ _ _ _ _ _ _ _ _ _ _ _ o1 o2).mono ?_; rintro e W9 ⟨p3, c3, r3, d3, m3, rfl, gg, y3⟩)
        refine hK.out _ _ (hHeld.up gg) (fun hHeld => ?_)
        clear hK K
        have o1 := o1.below gg
        have o2 := o2.below gg
        have hB := hB.up gg
        have hgs := gg.size
        have hle : W9.heap.size ≤ W9.heap.size := Nat.le_refl _
        generalize hlo : W8.heap.size = lo at y3 hlow hgs hposl
        generalize hhi : W9.heap.size = hi at y3 hgs hle
        have hle : hi ≤ W9.heap.size := by omega
        clear hhi hlo
        have hpos : hi ≤ ab ∨ ab + 1 ≤ lo := .inr (by omega)
        clear gg
        try simp only [Act.put]
        try simp only [List.setIfInBounds_toArray]
        try simp only [List.set]
        have T : Turned ab (ab + 1) W9 (((W9.setCell ⟨ab, 0, none⟩ (.int .i64 q)).setCell ⟨ab, 1, none⟩ (.slice p3 u c3)).setCell ⟨ab, 2, none⟩ (.slice r3 v d3)) := (((Turned.refl _ _ W9).setCell (p := ⟨ab, 0, none⟩) (Nat.le_refl _) (Nat.lt_succ_self _) _).setCell (p := ⟨ab, 1, none⟩) (Nat.le_refl _) (Nat.lt_succ_self _) _).setCell (p := ⟨ab, 2, none⟩) (Nat.le_refl _) (Nat.lt_succ_self _) _
        have habl := hB.lt
        obtain ⟨a0, a1, a2, f0, f1, f2, _⟩ := hB
        refine wpAnyH_ready (rs := [6]) (by kernel_rfl) (by simp) ?_
        refine AllReadyH.cons rfl (fun K hK => ?_) AllReadyH.nil
        go_simp
        refine hK.out _ _ (hHeld.turned T hab2) (fun hHeld => ?_)
        clear hK K
        try simp only [Act.put]
        try simp only [List.setIfInBounds_toArray]
        try simp only [List.set]
        refine wpAnyH_done (by kernel_rfl) ?_ _
        have b3 : L3 (((W9.setCell ⟨ab, 0, none⟩ (.int .i64 q)).setCell ⟨ab, 1, none⟩ (.slice p3 u c3)).setCell ⟨ab, 2, none⟩ (.slice r3 v d3)) ab q p3 u c3 r3 v d3 := ⟨by simp [go_sem, a0], by simp [go_sem, a1], by simp [go_sem, a2]⟩
        have y3 := (y3.turned T hpos).mono (lo' := w.heap.size) (hi' := W9.heap.size) (by omega) (by omega)
        have hsz : ab < (((W9.setCell ⟨ab, 0, none⟩ (.int .i64 q)).setCell ⟨ab, 1, none⟩ (.slice p3 u c3)).setCell ⟨ab, 2, none⟩ (.slice r3 v d3)).heap.size := by rw [World.size_setCell, World.size_setCell, World.size_setCell]; exact habl
        have y3 := y3.mono (lo' := w.heap.size) (hi' := (((W9.setCell ⟨ab, 0, none⟩ (.int .i64 q)).setCell ⟨ab, 1, none⟩ (.slice p3 u c3)).setCell ⟨ab, 2, none⟩ (.slice r3 v d3)).heap.size) (Nat.le_refl _) T.size
        go_wp2_with fail
        go_meet
        case rel => exact ⟨ab, p3, c3, r3, d3, m3, rfl, hHeld, b3, y3, hsz⟩
    · have gg : Below D.heap.size D (D.alloc (.cells #[.int .i64 0, .slice none 0 0, .slice none 0 0] 40)) := by go_grown
      have hab2 : w.heap.size + 2 ≤ D.heap.size := hHeld.lt
      have hB : A3 w D.heap.size (D.alloc (.cells #[.int .i64 0, .slice none 0 0, .slice none 0 0] 40)) := ⟨by simp [go_sem], by simp [go_sem], by simp [go_sem], by simp [go_sem], by simp [go_sem], by simp [go_sem], (hHeld.up gg).g⟩
      go_simp
      refine hK.out _ _ (hHeld.up gg) (fun hHeld => ?_)
      clear hK K
      clear gg
      generalize D.alloc (.cells #[.int .i64 0, .slice none 0 0, .slice none 0 0] 40) = W10 at hHeld hB  ⊢
      generalize D.heap.size = ab at hB hab2  ⊢
      try simp only [Act.put]
      try simp only [List.setIfInBounds_toArray]
      try simp only [List.set]
      refine wpAnyH_ready (rs := [1]) (by kernel_rfl) (by simp) ?_
      refine AllReadyH.cons rfl (fun K hK => ?_) AllReadyH.nil
      go_simp
      go_wp2_with (go_at_call 55; refine (HT.out hl1 _ hHeld.g).mono ?_; rintro e W11 ⟨p1, q1, mid1, rfl, gg, o1⟩)
      refine hK.out _ _ (hHeld.up gg) (fun hHeld => ?_)
      clear hK K
      have hB := hB.up gg
      clear gg
      try simp only [Act.put]
      try simp only [List.setIfInBounds_toArray]
      try simp only [List.set]
      refine wpAnyH_ready (rs := [3]) (by kernel_rfl) (by simp) ?_
      refine AllReadyH.cons rfl (fun K hK => ?_) AllReadyH.nil
      go_simp
      go_wp2_with (go_at_call 32; refine (HTr.out hl2 _ hHeld.g).mono ?_; rintro e W12 ⟨br1, AR1, FR1, rfl, gg, o2⟩)
      refine hK.out _ _ (hHeld.up gg) (fun hHeld => ?_)
      clear hK K
      have o1 := o1.below gg
      have hB := hB.up gg
      clear gg
      try simp only [Act.put]
      try simp only [List.setIfInBounds_toArray]
      try simp only [List.set]
      refine wpAnyH_ready (rs := [4]) (by kernel_rfl) (by simp) ?_
      refine AllReadyH.cons rfl (fun K hK => ?_) AllReadyH.nil
      have hposl := hB.lt
      have hlow := hHeld.lt
      go_simp
      go_wp2_with (go_at_call 22; refine (HSp.out hl1 hl2 _ _ _ _ _ _ _ _ _ _ _ _ o1 o2).mono ?_; rintro e W13 ⟨p3, c3, r3, d3, m3, rfl, gg, y3⟩)
      refine hK.out _ _ (hHeld.up gg) (fun hHeld => ?_)
      clear hK K
      have o1 := o1.below gg
      have o2 := o2.below gg
      have hB := hB.up gg
      have hgs := gg.size
      have hle : W13.heap.size ≤ W13.heap.size := Nat.le_refl _
      generalize hlo : W12.heap.size = lo at y3 hlow hgs hposl
      generalize hhi : W13.heap.size = hi at y3 hgs hle
      have hle : hi ≤ W13.heap.size := by omega
      clear hhi hlo
      have hpos : hi ≤ ab ∨ ab + 1 ≤ lo := .inr (by omega)
      clear gg
      try simp only [Act.put]
      try simp only [List.setIfInBounds_toArray]
      try simp only [List.set]
      have T : Turned ab (ab + 1) W13 (((W13.setCell ⟨ab, 0, none⟩ (.int .i64 q)).setCell ⟨ab, 1, none⟩ (.slice p3 u c3)).setCell ⟨ab, 2, none⟩ (.slice r3 v d3)) := (((Turned.refl _ _ W13).setCell (p := ⟨ab, 0, none⟩) (Nat.le_refl _) (Nat.lt_succ_self _) _).setCell (p := ⟨ab, 1, none⟩) (Nat.le_refl _) (Nat.lt_succ_self _) _).setCell (p := ⟨ab, 2, none⟩) (Nat.le_refl _) (Nat.lt_succ_self _) _
      have habl := hB.lt
      obtain ⟨a0, a1, a2, f0, f1, f2, _⟩ := hB
      refine wpAnyH_ready (rs := [6]) (by kernel_rfl) (by simp) ?_
      refine AllReadyH.cons rfl (fun K hK => ?_) AllReadyH.nil
      go_simp
      refine hK.out _ _ (hHeld.turned T hab2) (fun hHeld => ?_)
      clear hK K
      try simp only [Act.put]
      try simp only [List.setIfInBounds_toArray]
      try simp only [List.set]
      refine wpAnyH_done (by kernel_rfl) ?_ _
      have b3 : L3 (((W13.setCell ⟨ab, 0, none⟩ (.int .i64 q)).setCell ⟨ab, 1, none⟩ (.slice p3 u c3)).setCell ⟨ab, 2, none⟩ (.slice r3 v d3)) ab q p3 u c3 r3 v d3 := ⟨by simp [go_sem, a0], by simp [go_sem, a1], by simp [go_sem, a2]⟩
      have y3 := (y3.turned T hpos).mono (lo' := w.heap.size) (hi' := W13.heap.size) (by omega) (by omega)
      have hsz : ab < (((W13.setCell ⟨ab, 0, none⟩ (.int .i64 q)).setCell ⟨ab, 1, none⟩ (.slice p3 u c3)).setCell ⟨ab, 2, none⟩ (.slice r3 v d3)).heap.size := by rw [World.size_setCell, World.size_setCell, World.size_setCell]; exact habl
      have y3 := y3.mono (lo' := w.heap.size) (hi' := (((W13.setCell ⟨ab, 0, none⟩ (.int .i64 q)).setCell ⟨ab, 1, none⟩ (.slice p3 u c3)).setCell ⟨ab, 2, none⟩ (.slice r3 v d3)).heap.size) (Nat.le_refl _) T.size
      go_wp2_with fail
      go_meet
      case rel => exact ⟨ab, p3, c3, r3, d3, m3, rfl, hHeld, b3, y3, hsz⟩
  case rest =>
  obtain ⟨lb, p3, c3, r3, d3, m3, rfl, hA, b3, y3, hlb⟩ := hcut
  obtain ⟨c0, c1⟩ := hA.r0
  go_wp2_with fail
  refine (HT.out hl1 _ hA.g).mono ?_
  rintro e w4 ⟨px, qx, mx, rfl, g1, yx⟩
  have hs0 := hA.lt
  have hA := hA.up g1
  have b3 := b3.up g1
  have y3 := y3.below g1
  have hs1 := g1.size
  clear g1 c0 c1
  generalize wc.heap.size = l1 at y3 hlb yx hs0 hs1
  go_upto_region 10 with (fail)
  generalize hY : World.alloc w4 _ = Y4
  have gY : Below w4.heap.size w4 Y4 := by rw [← hY]; go_grown
  have bx : LgAt Y4 w4.heap.size px n n qx m m := by rw [← hY]; exact ⟨by simp [go_sem], by simp [go_sem]⟩
  have hA := hA.up gY
  have b3 := b3.up gY
  have y3 := y3.below gY
  have yx := yx.below gY
  have hs2 : w4.heap.size < Y4.heap.size := World.block_lt_of_cell? Y4 _ bx.c0
  clear hY gY
  generalize w4.heap.size = l3 at yx bx hs1 hs2 ⊢
  obtain ⟨c0, c1, c2, c3'⟩ := hA.rc
  go_wp2_with fail
  refine (HTr.out hl2 _ hA.g).mono ?_
  rintro e w5 ⟨br, AR, FR, rfl, g1, yr⟩
  have hA := hA.up g1
  have b3 := b3.up g1
  have y3 := y3.below g1
  have yx := yx.below g1
  have bx := bx.up g1
  have hs3 := g1.size
  clear g1 c0 c1 c2 c3'
  generalize Y4.heap.size = l6 at yr hs2 hs3
  go_upto_region 11 with (fail)
  generalize hY : World.alloc w5 _ = Y5
  have gY : Below w5.heap.size w5 Y5 := by rw [← hY]; go_grown
  have bc : RcAt Y5 w5.heap.size k tx pg (some ⟨br, 0, none⟩) l l := by rw [← hY]; exact ⟨by simp [go_sem], by simp [go_sem], by simp [go_sem], by simp [go_sem]⟩
  have hA := hA.up gY
  have b3 := b3.up gY
  have y3 := y3.below gY
  have yx := yx.below gY
  have bx := bx.up gY
  have yr := yr.below gY
  have hs4 : w5.heap.size < Y5.heap.size := World.block_lt_of_cell? Y5 _ bc.c0
  clear hY gY
  generalize w5.heap.size = l7 at yr bc hs3 hs4 ⊢
  obtain ⟨c0, c1⟩ := bx
  have bx : LgAt Y5 l3 px n n qx m m := ⟨c0, c1⟩
  obtain ⟨e0, e1, e2, e3⟩ := bc
  have bc : RcAt Y5 l7 k tx pg (some ⟨br, 0, none⟩) l l := ⟨e0, e1, e2, e3⟩
  go_wp2_with fail
  refine (HI.out hl1 hl2 _ _ _ _ _ _ _ _ _ _ _ _ yx yr).mono ?_
  rintro e w6 ⟨p5, c5, r5, d5, m5, rfl, g1, y5⟩
  have hA := hA.up g1
  have b3 := b3.up g1
  have y3 := y3.below g1
  have yx := yx.below g1
  have bx := bx.up g1
  have yr := yr.below g1
  have bc := bc.up g1
  have hs5 := g1.size
  clear g1 c0 c1 e0 e1 e2 e3
  generalize Y5.heap.size = l4 at y5 hs4 hs5
  go_upto_region 12 with (fail)
  generalize hY : World.alloc w6 _ = Y6
  have gY : Below w6.heap.size w6 Y6 := by rw [← hY]; go_grown
  have hHeld : LaS w x y n c m d k tx pg a l e' q us vs u v p3 r3 c3 d3 px qx xs ys br P AR (fun i => (Z i).length) Z FR p5 r5 c5 d5 us vs lb l1 l3 l6 l7 l4 w6.heap.size m3 mx m5 Y6 :=
    ⟨hA.up gY, y3.below gY, b3.up gY, yx.below gY, bx.up gY, yr.below gY, bc.up gY, y5.below gY, by rw [← hY]; exact ⟨by simp [go_sem], by simp [go_sem], by simp [go_sem]⟩, hs0, hlb, hs1, hs2, hs3, hs4, hs5⟩
  clear hY gY hA y3 b3 yx bx yr bc y5 hs0 hs1 hs2 hs3 hs4 hs5 hlb
  generalize w6.heap.size = l5 at hHeld ⊢
  obtain ⟨x0, x1, x2⟩ := hHeld.b3
  obtain ⟨y0, y1, y2⟩ := hHeld.b5
  go_wp2_with fail
  refine (eqLogResult_same q _ _ _ _ us vs _ _ _ _ _ _ _ _ _ _ _ _ _ HU.out HV.out hu2 hv2 hHeld.y5 hHeld.y3).mono ?_
  rintro e w7 ⟨rfl, g1⟩
  have hHeld := hHeld.up g1
  clear g1 x0 x1 x2 y0 y1 y2
  go_upto_region 14 with (fail)
  refine wp_region_held_drew (S := fun V => LaS w x y n c m d k tx pg a l e' q us vs u v p3 r3 c3 d3 px qx xs ys br P AR (fun i => (Z i).length) Z FR p5 r5 c5 d5 us vs lb l1 l3 l6 l7 l4 l5 m3 mx m5 V) (by kernel_rfl) (hHeld.up (Below.refl _ _).drew) (fun hHeld => ?_)
  generalize w7.drew = D at hHeld ⊢
  refine wpAnyH_take (i := 0) (v := ?v5) rfl (by kernel_rfl) (by kernel_rfl) (by kernel_rfl) (fun _ _ _ h => h) (Or.inl ⟨by kernel_rfl, ?h5⟩) hHeld ?_
  case h5 => intro u hSw; obtain ⟨q0, q1⟩ := hSw.bx; clear hSw; go_simp; try with_reducible rfl
  try simp only [List.getElem_toArray]
  try simp only [List.getElem_cons_succ]
  try simp only [List.getElem_cons_zero]
  try simp only [Act.put]
  try simp only [List.setIfInBounds_toArray]
  try simp only [List.set]
  refine wpAnyH_take (i := 1) (v := ?v6) rfl (by kernel_rfl) (by kernel_rfl) (by kernel_rfl) (fun _ _ _ h => h) (Or.inl ⟨by kernel_rfl, ?h6⟩) hHeld ?_
  case h6 => intro u hSw; obtain ⟨q0, q1⟩ := hSw.A.r0; clear hSw; go_simp; try with_reducible rfl
  try simp only [List.getElem_toArray]
  try simp only [List.getElem_cons_succ]
  try simp only [List.getElem_cons_zero]
  try simp only [Act.put]
  try simp only [List.setIfInBounds_toArray]
  try simp only [List.set]
  refine wpAnyH_ready (rs := [2]) (by kernel_rfl) (by simp) ?_
  refine AllReadyH.cons rfl (fun K hK => ?_) AllReadyH.nil
  go_simp
  go_wp2_with (go_at_call 55; refine (HT.out hl1 _ hHeld.A.g).mono ?_; rintro e w8 ⟨p8, q8, mid8, rfl, hb, o8⟩)
  refine hK.out _ _ (hHeld.up hb) (fun hHeld => ?_)
  clear hK K
  clear hb
  try simp only [Act.put]
  try simp only [List.setIfInBounds_toArray]
  try simp only [List.set]
  refine wpAnyH_ready (rs := [3]) (by kernel_rfl) (by simp) ?_
  refine AllReadyH.cons rfl (fun K hK => ?_) AllReadyH.nil
  go_simp
  go_wp2_with (go_at_call 56; refine (eqLog_same _ _ _ _ xs ys _ _ _ _ _ _ _ _ _ _ _ _ _ HN.out HM.out hn2 hm2 hHeld.yx o8).mono ?_; rintro e w9 ⟨rfl, hb⟩)
  refine hK.out _ _ (hHeld.up hb) (fun hHeld => ?_)
  clear hK K
  clear hb o8
  try simp only [Act.put]
  try simp only [List.setIfInBounds_toArray]
  try simp only [List.set]
  refine wpAnyH_take (i := 4) (v := ?v7) rfl (by kernel_rfl) (by kernel_rfl) (by kernel_rfl) (fun _ _ _ h => h) (Or.inl ⟨by kernel_rfl, ?h7⟩) hHeld ?_
  case h7 => intro u hSw; (try dsimp only at hSw); go_simp; try with_reducible rfl
  try simp only [List.getElem_toArray]
  try simp only [List.getElem_cons_succ]
  try simp only [List.getElem_cons_zero]
  try simp only [Act.put]
  try simp only [List.setIfInBounds_toArray]
  try simp only [List.set]
  refine wpAnyH_done (by kernel_rfl) ?_ _
  go_upto_region 16 with (fail)
  refine wp_region_held_drew (S := fun V => LaS w x y n c m d k tx pg a l e' q us vs u v p3 r3 c3 d3 px qx xs ys br P AR (fun i => (Z i).length) Z FR p5 r5 c5 d5 us vs lb l1 l3 l6 l7 l4 l5 m3 mx m5 V) (by kernel_rfl) (hHeld.up (Below.refl _ _).drew) (fun hHeld => ?_)
  generalize World.drew _ = D2 at hHeld ⊢
  refine wpAnyH_take (i := 0) (v := ?v8) rfl (by kernel_rfl) (by kernel_rfl) (by kernel_rfl) (fun _ _ _ h => h) (Or.inl ⟨by kernel_rfl, ?h8⟩) hHeld ?_
  case h8 => intro u hSw; obtain ⟨q0, q1, q2, q3⟩ := hSw.bc; clear hSw; go_simp; try with_reducible rfl
  try simp only [List.getElem_toArray]
  try simp only [List.getElem_cons_succ]
  try simp only [List.getElem_cons_zero]
  try simp only [Act.put]
  try simp only [List.setIfInBounds_toArray]
  try simp only [List.set]
  refine wpAnyH_take (i := 1) (v := ?v9) rfl (by kernel_rfl) (by kernel_rfl) (by kernel_rfl) (fun _ _ _ h => h) (Or.inl ⟨by kernel_rfl, ?h9⟩) hHeld ?_
  case h9 => intro u hSw; obtain ⟨q0, q1, q2, q3⟩ := hSw.A.rc; clear hSw; go_simp; try with_reducible rfl
  try simp only [List.getElem_toArray]
  try simp only [List.getElem_cons_succ]
  try simp only [List.getElem_cons_zero]
  try simp only [Act.put]
  try simp only [List.setIfInBounds_toArray]
  try simp only [List.set]
  refine wpAnyH_ready (rs := [2]) (by kernel_rfl) (by simp) ?_
  refine AllReadyH.cons rfl (fun K hK => ?_) AllReadyH.nil
  go_simp
  go_wp2_with (go_at_call 32; refine (HTr.out hl2 _ hHeld.A.g).mono ?_; rintro e w8 ⟨b8, A8, F8, rfl, hb, o8⟩)
  refine hK.out _ _ (hHeld.up hb) (fun hHeld => ?_)
  clear hK K
  clear hb
  try simp only [Act.put]
  try simp only [List.setIfInBounds_toArray]
  try simp only [List.set]
  refine wpAnyH_ready (rs := [3]) (by kernel_rfl) (by simp) ?_
  refine AllReadyH.cons rfl (fun K hK => ?_) AllReadyH.nil
  go_simp
  go_wp2_with (go_at_call 34; refine (eqRecord_same k tx pg br b8 l l l P AR A8 _ _ Z FR F8 _ _ _ _ _ hl2 hHeld.yr o8).mono ?_; rintro e w9 ⟨rfl, hb⟩)
  refine hK.out _ _ (hHeld.up hb) (fun hHeld => ?_)
  clear hK K
  clear hb o8
  try simp only [Act.put]
  try simp only [List.setIfInBounds_toArray]
  try simp only [List.set]
  refine wpAnyH_take (i := 4) (v := ?v10) rfl (by kernel_rfl) (by kernel_rfl) (by kernel_rfl) (fun _ _ _ h => h) (Or.inl ⟨by kernel_rfl, ?h10⟩) hHeld ?_
  case h10 => intro u hSw; (try dsimp only at hSw); go_simp; try with_reducible rfl
  try simp only [List.getElem_toArray]
  try simp only [List.getElem_cons_succ]
  try simp only [List.getElem_cons_zero]
  try simp only [Act.put]
  try simp only [List.setIfInBounds_toArray]
  try simp only [List.set]
  refine wpAnyH_done (by kernel_rfl) ?_ _
  obtain ⟨q0, q1⟩ := hHeld.bx
  have hsz3 := Nat.le_of_lt (World.block_lt_of_cell? _ _ q0)
  go_wp2_with fail
  refine (markLog_any px qx xs ys n n m m _ _ _ 1 _ HN.out HM.out hn3 hm3 (by omega) (by omega) hsz3 hHeld.yx).mono ?_
  rintro e w10 ⟨rfl, t1, yx'⟩
  have hHeld := hHeld.markX t1 yx'
  clear t1 yx' q0 q1 hsz3
  obtain ⟨q0, q1, q2, q3⟩ := hHeld.bc
  go_wp2_with fail
  refine (markRecord_own k tx pg br l l _ _ P AR _ Z FR (1 + n + m) _ hl2 (by omega) (by omega) hHeld.yr).mono ?_
  rintro e w11 ⟨rfl, t1, yr'⟩
  have hHeld := hHeld.markR t1 yr'
  clear t1 yr' q0 q1 q2 q3
  have hpos : ¬ (mk Z (1 + (n : Int) + (m : Int)) l < 0) := by unfold mk; omega
  have dpos : decide (mk Z (1 + (n : Int) + (m : Int)) l < 0) = false := by simpa using hpos
  obtain ⟨x0, x1, x2⟩ := hHeld.b3
  obtain ⟨y0, y1, y2⟩ := hHeld.b5
  go_wp2_with fail
  refine (eqLogResult_same q _ _ _ _ us vs _ _ _ _ _ _ _ _ _ _ _ _ _ HU.out HV.out hu2 hv2 hHeld.y5 hHeld.y3).mono ?_
  rintro e w12 ⟨rfl, g1⟩
  have hHeld := hHeld.up g1
  clear g1 x0 x1 x2 y0 y1 y2
  obtain ⟨y0, y1, y2⟩ := hHeld.b5
  have hsz5 := Nat.le_of_lt (World.block_lt_of_cell? _ _ y0)
  go_wp2_with fail
  refine (markLogResult_any q p5 r5 us vs u c5 v d5 _ _ _ 1 _ HU.out HV.out hu3 hv3 (by omega) (by omega) hsz5 hHeld.y5).mono ?_
  rintro e w13 ⟨rfl, t1, y5'⟩
  have hHeld := hHeld.markB t1 y5'
  clear t1 y5' y0 y1 y2 hsz5
  have hpos2 : ¬ (1 + (u : Int) + (v : Int) < 0) := by omega
  obtain ⟨y0, y1, y2⟩ := hHeld.b5
  go_wp2_with fail
  refine (heldLogResult_any q p5 r5 us vs u c5 v d5 _ _ _ 1 _ HU.out HV.out hu3 hv3 (by omega) (by omega) hHeld.y5).mono ?_
  rintro e w14 ⟨rfl, g1⟩
  have hHeld := hHeld.up g1
  clear g1 y0 y1 y2
  go_upto_region 31 with (fail)
  have HH : Hid (LaS w x y n c m d k tx pg a l e' q us vs u v p3 r3 c3 d3 px qx (marked 1 n xs) (marked (1 + n) m ys) br (mk Z (1 + n + m)) AR (fun i => (Z i).length) (mZ Z (1 + n + m)) FR p5 r5 c5 d5 (marked 1 u us) (marked (1 + u) v vs) lb l1 l3 l6 l7 l4 l5 m3 mx m5 w14) := hHeld
  go_cut [13] from 14 (fun s6 wc => ∃ (ab : Nat) (p3' : Option Addr) (c3' : Nat) (r3' : Option Addr) (d3' m3' : Nat), s6 = .pointer (some ⟨ab, 0, none⟩) ∧ LaS w x y n c m d k tx pg a l e' q us vs u v p3 r3 c3 d3 px qx (marked 1 n xs) (marked (1 + n) m ys) br (mk Z (1 + n + m)) AR (fun i => (Z i).length) (mZ Z (1 + n + m)) FR p5 r5 c5 d5 (marked 1 u us) (marked (1 + u) v vs) lb l1 l3 l6 l7 l4 l5 m3 mx m5 wc ∧ L3 wc ab q p3' u c3' r3' v d3' ∧ LogIn w.heap.size m3' wc.heap.size wc p3' r3' us vs ∧ ab < wc.heap.size)
  case first =>
    refine wp_region_held_drew (S := fun V => LaS w x y n c m d k tx pg a l e' q us vs u v p3 r3 c3 d3 px qx (marked 1 n xs) (marked (1 + n) m ys) br (mk Z (1 + n + m)) AR (fun i => (Z i).length) (mZ Z (1 + n + m)) FR p5 r5 c5 d5 (marked 1 u us) (marked (1 + u) v vs) lb l1 l3 l6 l7 l4 l5 m3 mx m5 V) (by kernel_rfl) (hHeld.up (Below.refl _ _).drew) (fun hHeld => ?_)
    generalize w14.drew = D at hHeld ⊢
    have hl5 : l5 < D.heap.size := World.block_lt_of_cell? _ _ hHeld.b5.c0
    clear HH
    refine wpAnyH_take (i := 0) (v := ?v3) rfl (by kernel_rfl) (by kernel_rfl) (by kernel_rfl) (fun _ _ _ h => h) (Or.inl ⟨by kernel_rfl, ?h3⟩) hHeld ?_
    case h3 => intro u hSw; obtain ⟨q0, q1⟩ := hSw.A.r0; clear hSw; go_simp; try with_reducible rfl
    try simp only [List.getElem_toArray]
    try simp only [List.getElem_cons_succ]
    try simp only [List.getElem_cons_zero]
    try simp only [Act.put]
    try simp only [List.setIfInBounds_toArray]
    try simp only [List.set]
    refine wpAnyH_take (i := 2) (v := ?v4) rfl (by kernel_rfl) (by kernel_rfl) (by kernel_rfl) (fun _ _ _ h => h) (Or.inl ⟨by kernel_rfl, ?h4⟩) hHeld ?_
    case h4 => intro u hSw; obtain ⟨q0, q1, q2, q3⟩ := hSw.A.rc; clear hSw; go_simp; try with_reducible rfl
    try simp only [List.getElem_toArray]
    try simp only [List.getElem_cons_succ]
    try simp only [List.getElem_cons_zero]
    try simp only [Act.put]
    try simp only [List.setIfInBounds_toArray]
    try simp only [List.set]
    refine wpAnyH_ready (rs := [1, 5]) (by kernel_rfl) (by simp) ?_
    refine AllReadyH.cons rfl (fun K hK => ?_) (AllReadyH.cons rfl (fun K hK => ?_) AllReadyH.nil)
    · go_simp
      go_wp2_with (go_at_call 55; refine (HT.out hl1 _ hHeld.A.g).mono ?_; rintro e W14 ⟨p1, q1, mid1, rfl, gg, o1⟩)
      refine hK.out _ _ (hHeld.up gg) (fun hHeld => ?_)
      clear hK K
      clear gg
      try simp only [Act.put]
      try simp only [List.setIfInBounds_toArray]
      try simp only [List.set]
      refine wpAnyH_ready (rs := [3, 5]) (by kernel_rfl) (by simp) ?_
      refine AllReadyH.cons rfl (fun K hK => ?_) (AllReadyH.cons rfl (fun K hK => ?_) AllReadyH.nil)
      · go_simp
        go_wp2_with (go_at_call 32; refine (HTr.out hl2 _ hHeld.A.g).mono ?_; rintro e W15 ⟨br1, AR1, FR1, rfl, gg, o2⟩)
        refine hK.out _ _ (hHeld.up gg) (fun hHeld => ?_)
        clear hK K
        have o1 := o1.below gg
        clear gg
        try simp only [Act.put]
        try simp only [List.setIfInBounds_toArray]
        try simp only [List.set]
        refine wpAnyH_ready (rs := [4, 5]) (by kernel_rfl) (by simp) ?_
        refine AllReadyH.cons rfl (fun K hK => ?_) (AllReadyH.cons rfl (fun K hK => ?_) AllReadyH.nil)
        · have hlow := hHeld.A.lt
          go_simp
          go_wp2_with (go_at_call 21; refine (HI.out hl1 hl2 _ _ _ _ _ _ _ _ _ _ _ _ o1 o2).mono ?_; rintro e W16 ⟨p3, c3, r3, d3, m3, rfl, gg, y3⟩)
          refine hK.out _ _ (hHeld.up gg) (fun hHeld => ?_)
          clear hK K
          have o1 := o1.below gg
          have o2 := o2.below gg
          have hgs := gg.size
          have hle : W16.heap.size ≤ W16.heap.size := Nat.le_refl _
          generalize hlo : W15.heap.size = lo at y3 hlow hgs 
          generalize hhi : W16.heap.size = hi at y3 hgs hle
          have hle : hi ≤ W16.heap.size := by omega
          clear hhi hlo
          clear gg
          try simp only [Act.put]
          try simp only [List.setIfInBounds_toArray]
          try simp only [List.set]
          refine wpAnyH_ready (rs := [5]) (by kernel_rfl) (by simp) ?_
          refine AllReadyH.cons rfl (fun K hK => ?_) AllReadyH.nil
          have gg : Below W16.heap.size W16 (W16.alloc (.cells #[.int .i64 0, .slice none 0 0, .slice none 0 0] 40)) := by go_grown
          have hab5 : l5 < W16.heap.size := World.block_lt_of_cell? _ _ hHeld.b5.c0
          have hab2 : w.heap.size + 2 ≤ W16.heap.size := hHeld.A.lt
          have hB : A3 w W16.heap.size (W16.alloc (.cells #[.int .i64 0, .slice none 0 0, .slice none 0 0] 40)) := ⟨by simp [go_sem], by simp [go_sem], by simp [go_sem], by simp [go_sem], by simp [go_sem], by simp [go_sem], (hHeld.up gg).A.g⟩
          have hpos : hi ≤ W16.heap.size ∨ W16.heap.size + 1 ≤ lo := .inl (by omega)
          go_simp
          refine hK.out _ _ (hHeld.up gg) (fun hHeld => ?_)
          clear hK K
          have y3 := y3.below gg
          clear gg
          generalize W16.alloc (.cells #[.int .i64 0, .slice none 0 0, .slice none 0 0] 40) = W17 at hHeld hB y3 ⊢
          generalize hab : W16.heap.size = ab at hB hab2 hab5 hpos hle ⊢
          clear hab
          try simp only [Act.put]
          try simp only [List.setIfInBounds_toArray]
          try simp only [List.set]
          have T : Turned ab (ab + 1) W17 (((W17.setCell ⟨ab, 0, none⟩ (.int .i64 q)).setCell ⟨ab, 1, none⟩ (.slice p3 u c3)).setCell ⟨ab, 2, none⟩ (.slice r3 v d3)) := (((Turned.refl _ _ W17).setCell (p := ⟨ab, 0, none⟩) (Nat.le_refl _) (Nat.lt_succ_self _) _).setCell (p := ⟨ab, 1, none⟩) (Nat.le_refl _) (Nat.lt_succ_self _) _).setCell (p := ⟨ab, 2, none⟩) (Nat.le_refl _) (Nat.lt_succ_self _) _
          have habl := hB.lt
          obtain ⟨a0, a1, a2, f0, f1, f2, _⟩ := hB
          refine wpAnyH_ready (rs := [6]) (by kernel_rfl) (by simp) ?_
          refine AllReadyH.cons rfl (fun K hK => ?_) AllReadyH.nil
          go_simp
          refine hK.out _ _ (hHeld.turned5 T hab5) (fun hHeld => ?_)
          clear hK K
          try simp only [Act.put]
          try simp only [List.setIfInBounds_toArray]
          try simp only [List.set]
          refine wpAnyH_done (by kernel_rfl) ?_ _
          have b3 : L3 (((W17.setCell ⟨ab, 0, none⟩ (.int .i64 q)).setCell ⟨ab, 1, none⟩ (.slice p3 u c3)).setCell ⟨ab, 2, none⟩ (.slice r3 v d3)) ab q p3 u c3 r3 v d3 := ⟨by simp [go_sem, a0], by simp [go_sem, a1], by simp [go_sem, a2]⟩
          have y3 := (y3.turned T hpos).mono (lo' := w.heap.size) (hi' := W17.heap.size) (by omega) (by omega)
          have hsz : ab < (((W17.setCell ⟨ab, 0, none⟩ (.int .i64 q)).setCell ⟨ab, 1, none⟩ (.slice p3 u c3)).setCell ⟨ab, 2, none⟩ (.slice r3 v d3)).heap.size := by rw [World.size_setCell, World.size_setCell, World.size_setCell]; exact habl
          have y3 := y3.mono (lo' := w.heap.size) (hi' := (((W17.setCell ⟨ab, 0, none⟩ (.int .i64 q)).setCell ⟨ab, 1, none⟩ (.slice p3 u c3)).setCell ⟨ab, 2, none⟩ (.slice r3 v d3)).heap.size) (Nat.le_refl _) T.size
          go_wp2_with fail
          go_meet
          case rel => exact ⟨ab, p3, c3, r3, d3, m3, rfl, hHeld, b3, y3, hsz⟩
        · have gg : Below W15.heap.size W15 (W15.alloc (.cells #[.int .i64 0, .slice none 0 0, .slice none 0 0] 40)) := by go_grown
          have hab5 : l5 < W15.heap.size := World.block_lt_of_cell? _ _ hHeld.b5.c0
          have hab2 : w.heap.size + 2 ≤ W15.heap.size := hHeld.A.lt
          have hB : A3 w W15.heap.size (W15.alloc (.cells #[.int .i64 0, .slice none 0 0, .slice none 0 0] 40)) := ⟨by simp [go_sem], by simp [go_sem], by simp [go_sem], by simp [go_sem], by simp [go_sem], by simp [go_sem], (hHeld.up gg).A.g⟩
          go_simp
          refine hK.out _ _ (hHeld.up gg) (fun hHeld => ?_)
          clear hK K
          have o1 := o1.below gg
          have o2 := o2.below gg
          clear gg
          generalize W15.alloc (.cells #[.int .i64 0, .slice none 0 0, .slice none 0 0] 40) = W18 at hHeld hB o1 o2 ⊢
          generalize W15.heap.size = ab at hB hab2 hab5  ⊢
          try simp only [Act.put]
          try simp only [List.setIfInBounds_toArray]
          try simp only [List.set]
          refine wpAnyH_ready (rs := [4]) (by kernel_rfl) (by simp) ?_
          refine AllReadyH.cons rfl (fun K hK => ?_) AllReadyH.nil
          have hposl := hB.lt
          have hlow := hHeld.A.lt
          go_simp
          go_wp2_with (go_at_call 21; refine (HI.out hl1 hl2 _ _ _ _ _ _ _ _ _ _ _ _ o1 o2).mono ?_; rintro e W19 ⟨p3, c3, r3, d3, m3, rfl, gg, y3⟩)
          refine hK.out _ _ (hHeld.up gg) (fun hHeld => ?_)
          clear hK K
          have o1 := o1.below gg
          have o2 := o2.below gg
          have hB := hB.up gg
          have hgs := gg.size
          have hle : W19.heap.size ≤ W19.heap.size := Nat.le_refl _
          generalize hlo : W18.heap.size = lo at y3 hlow hgs hposl
          generalize hhi : W19.heap.size = hi at y3 hgs hle
          have hle : hi ≤ W19.heap.size := by omega
          clear hhi hlo
          have hpos : hi ≤ ab ∨ ab + 1 ≤ lo := .inr (by omega)
          clear gg
          try simp only [Act.put]
          try simp only [List.setIfInBounds_toArray]
          try simp only [List.set]
          have T : Turned ab (ab + 1) W19 (((W19.setCell ⟨ab, 0, none⟩ (.int .i64 q)).setCell ⟨ab, 1, none⟩ (.slice p3 u c3)).setCell ⟨ab, 2, none⟩ (.slice r3 v d3)) := (((Turned.refl _ _ W19).setCell (p := ⟨ab, 0, none⟩) (Nat.le_refl _) (Nat.lt_succ_self _) _).setCell (p := ⟨ab, 1, none⟩) (Nat.le_refl _) (Nat.lt_succ_self _) _).setCell (p := ⟨ab, 2, none⟩) (Nat.le_refl _) (Nat.lt_succ_self _) _
          have habl := hB.lt
          obtain ⟨a0, a1, a2, f0, f1, f2, _⟩ := hB
          refine wpAnyH_ready (rs := [6]) (by kernel_rfl) (by simp) ?_
          refine AllReadyH.cons rfl (fun K hK => ?_) AllReadyH.nil
          go_simp
          refine hK.out _ _ (hHeld.turned5 T hab5) (fun hHeld => ?_)
          clear hK K
          try simp only [Act.put]
          try simp only [List.setIfInBounds_toArray]
          try simp only [List.set]
          refine wpAnyH_done (by kernel_rfl) ?_ _
          have b3 : L3 (((W19.setCell ⟨ab, 0, none⟩ (.int .i64 q)).setCell ⟨ab, 1, none⟩ (.slice p3 u c3)).setCell ⟨ab, 2, none⟩ (.slice r3 v d3)) ab q p3 u c3 r3 v d3 := ⟨by simp [go_sem, a0], by simp [go_sem, a1], by simp [go_sem, a2]⟩
          have y3 := (y3.turned T hpos).mono (lo' := w.heap.size) (hi' := W19.heap.size) (by omega) (by omega)
          have hsz : ab < (((W19.setCell ⟨ab, 0, none⟩ (.int .i64 q)).setCell ⟨ab, 1, none⟩ (.slice p3 u c3)).setCell ⟨ab, 2, none⟩ (.slice r3 v d3)).heap.size := by rw [World.size_setCell, World.size_setCell, World.size_setCell]; exact habl
          have y3 := y3.mono (lo' := w.heap.size) (hi' := (((W19.setCell ⟨ab, 0, none⟩ (.int .i64 q)).setCell ⟨ab, 1, none⟩ (.slice p3 u c3)).setCell ⟨ab, 2, none⟩ (.slice r3 v d3)).heap.size) (Nat.le_refl _) T.size
          go_wp2_with fail
          go_meet
          case rel => exact ⟨ab, p3, c3, r3, d3, m3, rfl, hHeld, b3, y3, hsz⟩
      · have gg : Below W14.heap.size W14 (W14.alloc (.cells #[.int .i64 0, .slice none 0 0, .slice none 0 0] 40)) := by go_grown
        have hab5 : l5 < W14.heap.size := World.block_lt_of_cell? _ _ hHeld.b5.c0
        have hab2 : w.heap.size + 2 ≤ W14.heap.size := hHeld.A.lt
        have hB : A3 w W14.heap.size (W14.alloc (.cells #[.int .i64 0, .slice none 0 0, .slice none 0 0] 40)) := ⟨by simp [go_sem], by simp [go_sem], by simp [go_sem], by simp [go_sem], by simp [go_sem], by simp [go_sem], (hHeld.up gg).A.g⟩
        go_simp
        refine hK.out _ _ (hHeld.up gg) (fun hHeld => ?_)
        clear hK K
        have o1 := o1.below gg
        clear gg
        generalize W14.alloc (.cells #[.int .i64 0, .slice none 0 0, .slice none 0 0] 40) = W20 at hHeld hB o1 ⊢
        generalize W14.heap.size = ab at hB hab2 hab5  ⊢
        try simp only [Act.put]
        try simp only [List.setIfInBounds_toArray]
        try simp only [List.set]
        refine wpAnyH_ready (rs := [3]) (by kernel_rfl) (by simp) ?_
        refine AllReadyH.cons rfl (fun K hK => ?_) AllReadyH.nil
        go_simp
        go_wp2_with (go_at_call 32; refine (HTr.out hl2 _ hHeld.A.g).mono ?_; rintro e W21 ⟨br1, AR1, FR1, rfl, gg, o2⟩)
        refine hK.out _ _ (hHeld.up gg) (fun hHeld => ?_)
        clear hK K
        have o1 := o1.below gg
        have hB := hB.up gg
        clear gg
        try simp only [Act.put]
        try simp only [List.setIfInBounds_toArray]
        try simp only [List.set]
        refine wpAnyH_ready (rs := [4]) (by kernel_rfl) (by simp) ?_
        refine AllReadyH.cons rfl (fun K hK => ?_) AllReadyH.nil
        have hposl := hB.lt
        have hlow := hHeld.A.lt
        go_simp
        go_wp2_with (go_at_call 21; refine (HI.out hl1 hl2 _ _ _ _ _ _ _ _ _ _ _ _ o1 o2).mono ?_; rintro e W22 ⟨p3, c3, r3, d3, m3, rfl, gg, y3⟩)
        refine hK.out _ _ (hHeld.up gg) (fun hHeld => ?_)
        clear hK K
        have o1 := o1.below gg
        have o2 := o2.below gg
        have hB := hB.up gg
        have hgs := gg.size
        have hle : W22.heap.size ≤ W22.heap.size := Nat.le_refl _
        generalize hlo : W21.heap.size = lo at y3 hlow hgs hposl
        generalize hhi : W22.heap.size = hi at y3 hgs hle
        have hle : hi ≤ W22.heap.size := by omega
        clear hhi hlo
        have hpos : hi ≤ ab ∨ ab + 1 ≤ lo := .inr (by omega)
        clear gg
        try simp only [Act.put]
        try simp only [List.setIfInBounds_toArray]
        try simp only [List.set]
        have T : Turned ab (ab + 1) W22 (((W22.setCell ⟨ab, 0, none⟩ (.int .i64 q)).setCell ⟨ab, 1, none⟩ (.slice p3 u c3)).setCell ⟨ab, 2, none⟩ (.slice r3 v d3)) := (((Turned.refl _ _ W22).setCell (p := ⟨ab, 0, none⟩) (Nat.le_refl _) (Nat.lt_succ_self _) _).setCell (p := ⟨ab, 1, none⟩) (Nat.le_refl _) (Nat.lt_succ_self _) _).setCell (p := ⟨ab, 2, none⟩) (Nat.le_refl _) (Nat.lt_succ_self _) _
        have habl := hB.lt
        obtain ⟨a0, a1, a2, f0, f1, f2, _⟩ := hB
        refine wpAnyH_ready (rs := [6]) (by kernel_rfl) (by simp) ?_
        refine AllReadyH.cons rfl (fun K hK => ?_) AllReadyH.nil
        go_simp
        refine hK.out _ _ (hHeld.turned5 T hab5) (fun hHeld => ?_)
        clear hK K
        try simp only [Act.put]
        try simp only [List.setIfInBounds_toArray]
        try simp only [List.set]
        refine wpAnyH_done (by kernel_rfl) ?_ _
        have b3 : L3 (((W22.setCell ⟨ab, 0, none⟩ (.int .i64 q)).setCell ⟨ab, 1, none⟩ (.slice p3 u c3)).setCell ⟨ab, 2, none⟩ (.slice r3 v d3)) ab q p3 u c3 r3 v d3 := ⟨by simp [go_sem, a0], by simp [go_sem, a1], by simp [go_sem, a2]⟩
        have y3 := (y3.turned T hpos).mono (lo' := w.heap.size) (hi' := W22.heap.size) (by omega) (by omega)
        have hsz : ab < (((W22.setCell ⟨ab, 0, none⟩ (.int .i64 q)).setCell ⟨ab, 1, none⟩ (.slice p3 u c3)).setCell ⟨ab, 2, none⟩ (.slice r3 v d3)).heap.size := by rw [World.size_setCell, World.size_setCell, World.size_setCell]; exact habl
        have y3 := y3.mono (lo' := w.heap.size) (hi' := (((W22.setCell ⟨ab, 0, none⟩ (.int .i64 q)).setCell ⟨ab, 1, none⟩ (.slice p3 u c3)).setCell ⟨ab, 2, none⟩ (.slice r3 v d3)).heap.size) (Nat.le_refl _) T.size
        go_wp2_with fail
        go_meet
        case rel => exact ⟨ab, p3, c3, r3, d3, m3, rfl, hHeld, b3, y3, hsz⟩
    · have gg : Below D.heap.size D (D.alloc (.cells #[.int .i64 0, .slice none 0 0, .slice none 0 0] 40)) := by go_grown
      have hab5 : l5 < D.heap.size := World.block_lt_of_cell? _ _ hHeld.b5.c0
      have hab2 : w.heap.size + 2 ≤ D.heap.size := hHeld.A.lt
      have hB : A3 w D.heap.size (D.alloc (.cells #[.int .i64 0, .slice none 0 0, .slice none 0 0] 40)) := ⟨by simp [go_sem], by simp [go_sem], by simp [go_sem], by simp [go_sem], by simp [go_sem], by simp [go_sem], (hHeld.up gg).A.g⟩
      go_simp
      refine hK.out _ _ (hHeld.up gg) (fun hHeld => ?_)
      clear hK K
      clear gg
      generalize D.alloc (.cells #[.int .i64 0, .slice none 0 0, .slice none 0 0] 40) = W23 at hHeld hB  ⊢
      generalize D.heap.size = ab at hB hab2 hab5  ⊢
      try simp only [Act.put]
      try simp only [List.setIfInBounds_toArray]
      try simp only [List.set]
      refine wpAnyH_ready (rs := [1]) (by kernel_rfl) (by simp) ?_
      refine AllReadyH.cons rfl (fun K hK => ?_) AllReadyH.nil
      go_simp
      go_wp2_with (go_at_call 55; refine (HT.out hl1 _ hHeld.A.g).mono ?_; rintro e W24 ⟨p1, q1, mid1, rfl, gg, o1⟩)
      refine hK.out _ _ (hHeld.up gg) (fun hHeld => ?_)
      clear hK K
      have hB := hB.up gg
      clear gg
      try simp only [Act.put]
      try simp only [List.setIfInBounds_toArray]
      try simp only [List.set]
      refine wpAnyH_ready (rs := [3]) (by kernel_rfl) (by simp) ?_
      refine AllReadyH.cons rfl (fun K hK => ?_) AllReadyH.nil
      go_simp
      go_wp2_with (go_at_call 32; refine (HTr.out hl2 _ hHeld.A.g).mono ?_; rintro e W25 ⟨br1, AR1, FR1, rfl, gg, o2⟩)
      refine hK.out _ _ (hHeld.up gg) (fun hHeld => ?_)
      clear hK K
      have o1 := o1.below gg
      have hB := hB.up gg
      clear gg
      try simp only [Act.put]
      try simp only [List.setIfInBounds_toArray]
      try simp only [List.set]
      refine wpAnyH_ready (rs := [4]) (by kernel_rfl) (by simp) ?_
      refine AllReadyH.cons rfl (fun K hK => ?_) AllReadyH.nil
      have hposl := hB.lt
      have hlow := hHeld.A.lt
      go_simp
      go_wp2_with (go_at_call 21; refine (HI.out hl1 hl2 _ _ _ _ _ _ _ _ _ _ _ _ o1 o2).mono ?_; rintro e W26 ⟨p3, c3, r3, d3, m3, rfl, gg, y3⟩)
      refine hK.out _ _ (hHeld.up gg) (fun hHeld => ?_)
      clear hK K
      have o1 := o1.below gg
      have o2 := o2.below gg
      have hB := hB.up gg
      have hgs := gg.size
      have hle : W26.heap.size ≤ W26.heap.size := Nat.le_refl _
      generalize hlo : W25.heap.size = lo at y3 hlow hgs hposl
      generalize hhi : W26.heap.size = hi at y3 hgs hle
      have hle : hi ≤ W26.heap.size := by omega
      clear hhi hlo
      have hpos : hi ≤ ab ∨ ab + 1 ≤ lo := .inr (by omega)
      clear gg
      try simp only [Act.put]
      try simp only [List.setIfInBounds_toArray]
      try simp only [List.set]
      have T : Turned ab (ab + 1) W26 (((W26.setCell ⟨ab, 0, none⟩ (.int .i64 q)).setCell ⟨ab, 1, none⟩ (.slice p3 u c3)).setCell ⟨ab, 2, none⟩ (.slice r3 v d3)) := (((Turned.refl _ _ W26).setCell (p := ⟨ab, 0, none⟩) (Nat.le_refl _) (Nat.lt_succ_self _) _).setCell (p := ⟨ab, 1, none⟩) (Nat.le_refl _) (Nat.lt_succ_self _) _).setCell (p := ⟨ab, 2, none⟩) (Nat.le_refl _) (Nat.lt_succ_self _) _
      have habl := hB.lt
      obtain ⟨a0, a1, a2, f0, f1, f2, _⟩ := hB
      refine wpAnyH_ready (rs := [6]) (by kernel_rfl) (by simp) ?_
      refine AllReadyH.cons rfl (fun K hK => ?_) AllReadyH.nil
      go_simp
      refine hK.out _ _ (hHeld.turned5 T hab5) (fun hHeld => ?_)
      clear hK K
      try simp only [Act.put]
      try simp only [List.setIfInBounds_toArray]
      try simp only [List.set]
      refine wpAnyH_done (by kernel_rfl) ?_ _
      have b3 : L3 (((W26.setCell ⟨ab, 0, none⟩ (.int .i64 q)).setCell ⟨ab, 1, none⟩ (.slice p3 u c3)).setCell ⟨ab, 2, none⟩ (.slice r3 v d3)) ab q p3 u c3 r3 v d3 := ⟨by simp [go_sem, a0], by simp [go_sem, a1], by simp [go_sem, a2]⟩
      have y3 := (y3.turned T hpos).mono (lo' := w.heap.size) (hi' := W26.heap.size) (by omega) (by omega)
      have hsz : ab < (((W26.setCell ⟨ab, 0, none⟩ (.int .i64 q)).setCell ⟨ab, 1, none⟩ (.slice p3 u c3)).setCell ⟨ab, 2, none⟩ (.slice r3 v d3)).heap.size := by rw [World.size_setCell, World.size_setCell, World.size_setCell]; exact habl
      have y3 := y3.mono (lo' := w.heap.size) (hi' := (((W26.setCell ⟨ab, 0, none⟩ (.int .i64 q)).setCell ⟨ab, 1, none⟩ (.slice p3 u c3)).setCell ⟨ab, 2, none⟩ (.slice r3 v d3)).heap.size) (Nat.le_refl _) T.size
      go_wp2_with fail
      go_meet
      case rel => exact ⟨ab, p3, c3, r3, d3, m3, rfl, hHeld, b3, y3, hsz⟩
  case rest =>
  obtain ⟨ab, p15, c15, r15, d15, m15, rfl, hHeld, b15, y15, hab⟩ := hcut
  obtain ⟨x0, x1, x2⟩ := hHeld.b3
  obtain ⟨y0, y1, y2⟩ := b15
  go_wp2_with fail
  refine (eqLogResult_same q _ _ _ _ us vs _ _ _ _ _ _ _ _ _ _ _ _ _ HU.out HV.out hu2 hv2 y15 hHeld.y3).mono ?_
  rintro e w16 ⟨rfl, g1⟩
  have hHeld := hHeld.up g1
  clear g1 x0 x1 x2 y0 y1 y2 y15
  obtain ⟨y0, y1, y2⟩ := hHeld.b5
  go_wp2_with fail
  refine (heldLogResult_any q p5 r5 us vs u c5 v d5 _ _ _ 1 _ HU.out HV.out hu3 hv3 (by omega) (by omega) hHeld.y5).mono ?_
  rintro e w17 ⟨rfl, g1⟩
  have hHeld := hHeld.up g1
  have gE := hHeld.A.g
  clear g1 y0 y1 y2 hHeld
  go_wp2_with fail
  go_ret
  exact ⟨rfl, gE⟩

theorem lawAppendLog_any (x : Option Addr) (n c : Nat) (zs : List Int) (y : Option Addr) (m d : Nat) (us : List Int) (k tx pg : Int) (a : Option Addr) (l e' : Nat) (P : Nat → Int) (A : Nat → Option Addr) (C : Nat → Nat) (Z : Nat → List Int) (w : World) (h : IsRow .u8 w x n c zs) (hk : IsRow .u8 w y m d us) (hir : IsRuns w a l P A C Z) :
    Calls Try.prog 10 #[.agg #[.slice x n c, .slice y m d], .agg #[.int .i64 k, .int .i64 tx, .int .i64 pg, .slice a l e']] w fun e w' => e = .returned (.bool true) ∧ Below w.heap.size w w' := by
  obtain ⟨hn, _, hr, hz⟩ := isRow_reads h
  obtain ⟨hm, _, kr, kz⟩ := isRow_reads hk
  have h1 := isRow_small h
  have h2 := isRow_small hk
  have := lawAppendLog_fits x y (zs.take n) (us.take m) c d k tx pg a l e' P A C Z w (by omega) (by omega) hr kr hz kz hir
  rw [hn, hm] at this
  exact this

end Go.Proofs.Ytcjkjenebnodbaa
