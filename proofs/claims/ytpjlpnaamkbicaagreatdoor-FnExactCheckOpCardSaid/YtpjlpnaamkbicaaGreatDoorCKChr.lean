/-
  Changes counted and made one's own: szChange, szChangeS, toChange.
-/
import Derived.Test.YtpjlpnaamkbicaaGreatDoorCKChf

namespace Go.Proofs.YtpjlpnaamkbicaaGreatDoor
open Go.RowKit Go.Maps
set_option linter.unusedVariables false

theorem ChC.turned {w w' : World} {b o lo hi : Nat} {x : Chg} (h : ChC w b o x) (t : Turned lo hi w w') (hn : b < lo ∨ hi ≤ b) : ChC w' b o x :=
  ⟨t.cell h.c0 hn, t.cell h.c1 hn, t.cell h.c2 hn, t.cell h.c3 hn, t.cell h.c4 hn, t.cell h.c5 hn, t.cell h.c6 hn, t.cell h.c7 hn, t.cell h.c8 hn, t.cell h.c9 hn⟩

set_option maxHeartbeats 1000000 in
theorem szChange_any (x0 : Bool) (bt bk bv : Int) (bs : ByteArray) (x5 : Bool) (at' ak av : Int) (sa : ByteArray) (k : Int) (w : World) (hb : bs.size ≤ maxLen) (ha : sa.size ≤ maxLen) (hk0 : 0 ≤ k) (hk : k ≤ 1048576) :
    Calls Tryz.prog 72 #[.agg #[.bool x0, .int .i64 bt, .int .i64 bk, .int .i64 bv, .string bs, .bool x5, .int .i64 at', .int .i64 ak, .int .i64 av, .string sa], .int .i64 k] w fun e w' => (∃ r : Int, e = .returned (.int .i64 r) ∧ r ≤ 1048576 ∧ (0 ≤ r → bs.size ≤ 1048576 ∧ sa.size ≤ 1048576)) ∧ Below w.heap.size w w' := by
  obtain ⟨Y, hY⟩ : ∃ Y, w.alloc (.cells #[.bool x0, .int .i64 bt, .int .i64 bk, .int .i64 bv, .string bs, .bool x5, .int .i64 at', .int .i64 ak, .int .i64 av, .string sa] 113) = Y := ⟨_, rfl⟩
  have gY : Below w.heap.size w Y := by rw [← hY]; go_grown
  have Z : ChC Y w.heap.size 0 ⟨x0, ⟨bt, bk, bv, bs⟩, x5, ⟨at', ak, av, sa⟩⟩ := by rw [← hY]; exact ⟨by simp [go_sem], by simp [go_sem], by simp [go_sem], by simp [go_sem], by simp [go_sem], by simp [go_sem], by simp [go_sem], by simp [go_sem], by simp [go_sem], by simp [go_sem]⟩
  have hlZ := Z.lt
  obtain ⟨c0, c1, c2, c3, c4, c5, c6, c7, c8, c9⟩ := Z
  dsimp only at c0 c1 c2 c3 c4 c5 c6 c7 c8 c9
  by_cases h1 : (bs.size : Int) ≤ k
  · go_enter Tryz.func72, Tryz.ntmps72
    go_wp2_with fail
    refine (szRow_fits bt bk bv bs k _ h1 hk).mono ?_
    rintro e w1 ⟨rfl, g1⟩
    have Z : ChC w1 w.heap.size 0 ⟨x0, ⟨bt, bk, bv, bs⟩, x5, ⟨at', ak, av, sa⟩⟩ := ChC.below (w := Y) ⟨c0, c1, c2, c3, c4, c5, c6, c7, c8, c9⟩ g1 hlZ
    have g := gY.trans (g1.mono gY.size)
    clear c0 c1 c2 c3 c4 c5 c6 c7 c8 c9 gY g1 hY
    obtain ⟨q, hq⟩ : ∃ q : Int, q = k - (bs.size : Int) := ⟨_, rfl⟩
    have hq0 : 0 ≤ q := by omega
    have hq1 : q ≤ 1048576 := by omega
    have dq : ¬ q < 0 := by omega
    have hbs : bs.size ≤ 1048576 := by omega
    rw [← hq]
    clear hq h1
    obtain ⟨c0, c1, c2, c3, c4, c5, c6, c7, c8, c9⟩ := Z
    dsimp only at c0 c1 c2 c3 c4 c5 c6 c7 c8 c9
    by_cases h2 : (sa.size : Int) ≤ q
    · go_wp2_with fail
      refine (szRow_fits at' ak av sa q _ h2 hq1).mono ?_
      rintro e w2 ⟨rfl, g2⟩
      have g := g.trans (g2.mono g.size)
      have dr : ¬ (q - (sa.size : Int) < 0) := by omega
      obtain ⟨r, hr⟩ : ∃ r : Int, r = q - (sa.size : Int) := ⟨_, rfl⟩
      rw [← hr] at dr ⊢
      have hr1 : r ≤ 1048576 := by omega
      have hsa : sa.size ≤ 1048576 := by omega
      clear c0 c1 c2 c3 c4 c5 c6 c7 c8 c9 g2 hr
      go_wp2_with fail
      go_ret
      exact ⟨⟨r, rfl, hr1, fun _ => ⟨hbs, hsa⟩⟩, g⟩
    · go_wp2_with fail
      refine (szRow_over at' ak av sa q _ ha hq0 hq1 (by omega)).mono ?_
      rintro e w2 ⟨rfl, g2⟩
      have g := g.trans (g2.mono g.size)
      clear c0 c1 c2 c3 c4 c5 c6 c7 c8 c9 g2
      go_wp2_with fail
      go_ret
      exact ⟨⟨-1, rfl, by omega, fun h => absurd h (by omega)⟩, g⟩
  · go_enter Tryz.func72, Tryz.ntmps72
    go_wp2_with fail
    refine (szRow_over bt bk bv bs k _ hb hk0 hk (by omega)).mono ?_
    rintro e w1 ⟨rfl, g1⟩
    have g := gY.trans (g1.mono gY.size)
    clear c0 c1 c2 c3 c4 c5 c6 c7 c8 c9 gY g1 hY
    go_wp2_with fail
    go_ret
    exact ⟨⟨-1, rfl, by omega, fun h => absurd h (by omega)⟩, g⟩

theorem at_ltC {cs : List Chg} {i : Nat} (h : i < cs.length) : ∃ r, cs[i]? = some r := ⟨cs[i], List.getElem?_eq_getElem h⟩
theorem Rs.chgAt {w : World} {b off : Nat} {xs : List Chg} (h : Rs chE 10 w (some ⟨b, off, none⟩) xs) {i : Nat} {x : Chg} (hx : xs[i]? = some x) : ChC w b (off + i * 10) x := by
  obtain ⟨b', off', ha, hc⟩ := h.chg hx
  simp only [Option.some.injEq, Addr.mk.injEq, and_true] at ha
  obtain ⟨rfl, rfl⟩ := ha
  exact hc

set_option maxHeartbeats 2000000 in
theorem szChangeS_any (a : Option Addr) (cs : List Chg) (n c : Nat) (w : World) (k : Int) (hn : cs.length = n) (hm : n ≤ 9223372036854775807) (hs : ∀ x ∈ cs, x.b.s.size ≤ maxLen ∧ x.a.s.size ≤ maxLen) (hr : Rs chE 10 w a cs) (hk0 : 0 ≤ k) (hk : k ≤ 1048576) :
    Calls Tryz.prog 35 #[.slice a n c, .int .i64 k] w fun e w' => (∃ r : Int, e = .returned (.int .i64 r) ∧ r ≤ 1048576 ∧ (0 ≤ r → n ≤ 1048576 ∧ ∀ x ∈ cs, x.b.s.size ≤ 1048576 ∧ x.a.s.size ≤ 1048576)) ∧ Below w.heap.size w w' := by
  by_cases h : k < n
  · have d : (k - (n : Int) < 0) := by omega
    go_enter Tryz.func35, Tryz.ntmps35
    go_wp2_with fail
    go_ret
    exact ⟨⟨-1, rfl, by omega, by omega⟩, Below.refl _ _⟩
  · have d : ¬ (k - (n : Int) < 0) := by omega
    by_cases h0 : n = 0
    · subst h0
      obtain rfl : cs = [] := List.length_eq_zero_iff.1 hn
      go_enter Tryz.func35, Tryz.ntmps35
      go_wp2_with fail
      go_rounds 1
      go_ret
      exact ⟨⟨_, rfl, by omega, fun _ => ⟨by omega, fun x hx => by simp at hx⟩⟩, Below.refl _ _⟩
    have HR := hr
    rcases hr with hr | ⟨b, off, rfl, hc⟩
    · exfalso; rw [hr] at hn; simp at hn; omega
    clear hc
    have HR : Hid (Rs chE 10 w (some ⟨b, off, none⟩) cs) := HR
    have HS : Hid (∀ x ∈ cs, x.b.s.size ≤ maxLen ∧ x.a.s.size ≤ maxLen) := hs
    have HN : Hid (cs.length = n) := hn
    clear hn hs
    go_enter Tryz.func35, Tryz.ntmps35
    go_wp2_with fail
    go_loopw [5, 1] (fun i l wr => ∃ (j : Nat) (m : Int), j ≤ n ∧ i = .int .i64 j ∧ l = .int .i64 m ∧ 0 ≤ m ∧ m ≤ 1048576 ∧ Hid (∀ x ∈ cs.take j, x.b.s.size ≤ 1048576 ∧ x.a.s.size ≤ 1048576) ∧ Below w.heap.size w wr) (fun i _ _ => n - (intOf i).toNat)
    case atStart => exact ⟨0, _, Nat.zero_le _, rfl, rfl, by omega, by omega, fun x hx => by simp at hx, Below.refl _ _⟩
    case round =>
      obtain ⟨j, m, hj, rfl, rfl, hm0, hm1, hall, g⟩ := hrel
      by_cases hlt : j < n
      · obtain ⟨x, hx⟩ := at_ltC (cs := cs) (i := j) (by rw [HN.out]; exact hlt)
        have Z := (HR.out.below g (Nat.le_refl _)).chgAt hx
        have hjn : (j : Int) < (n : Int) := by omega
        have hsl := HS.out x (List.mem_of_getElem? hx)
        have HT : Hid (cs.take (j + 1) = cs.take j ++ [x]) := take_snoc hx
        clear hx
        obtain ⟨x0, ⟨bt, bk, bv, bs⟩, x5, ⟨at', ak, av, sa⟩⟩ := x
        obtain ⟨c0, c1, c2, c3, c4, c5, c6, c7, c8, c9⟩ := Z
        dsimp only at c0 c1 c2 c3 c4 c5 c6 c7 c8 c9 hsl
        go_wp2_with fail
        refine (szChange_any x0 bt bk bv bs x5 at' ak av sa m _ hsl.1 hsl.2 hm0 hm1).mono ?_
        rintro e w' ⟨⟨r, rfl, hr1, hl⟩, g'⟩
        have g : Below w.heap.size w w' := g.trans (g'.mono g.size)
        clear g' c0 c1 c2 c3 c4 c5 c6 c7 c8 c9 hsl
        by_cases hr0 : r < 0
        · clear hl
          go_wp2_with fail
          go_ret
          exact ⟨⟨-1, rfl, by omega, by omega⟩, g⟩
        · have H2 : Hid (∀ x ∈ cs.take (j + 1), x.b.s.size ≤ 1048576 ∧ x.a.s.size ≤ 1048576) := by
            intro x hx
            rw [HT.out] at hx
            rcases List.mem_append.1 hx with hx | hx
            · exact hall.out x hx
            · simp at hx; subst hx; exact hl (by omega)
          clear hl HT hall
          go_wp2_with fail
          go_roundw
          case rel => exact ⟨j + 1, r, by omega, by go_num, rfl, by omega, hr1, H2, g⟩
          case measure => simp [intOf]; omega
      · have e : j = n := by omega
        subst e
        go_wp2_with fail
        go_ret
        refine ⟨⟨_, rfl, by omega, fun _ => ⟨by omega, fun x hx => ?_⟩⟩, g⟩
        exact hall.out x (by rw [List.take_of_length_le (by rw [HN.out]; exact Nat.le_refl _)]; exact hx)

set_option maxRecDepth 20000 in
set_option maxHeartbeats 4000000 in
theorem toChange_any (x0 : Bool) (bt bk bv : Int) (bs : ByteArray) (x5 : Bool) (at' ak av : Int) (sa : ByteArray) (w : World) :
    Calls Tryz.prog 83 #[.agg #[.bool x0, .int .i64 bt, .int .i64 bk, .int .i64 bv, .string bs, .bool x5, .int .i64 at', .int .i64 ak, .int .i64 av, .string sa]] w fun e w' => e = .returned (.agg #[.bool x0, .int .i64 bt, .int .i64 bk, .int .i64 bv, .string bs, .bool x5, .int .i64 at', .int .i64 ak, .int .i64 av, .string sa]) ∧ Below w.heap.size w w' := by
  go_enter Tryz.func83, Tryz.ntmps83
  go_upto_region 2 with (fail)
  generalize hY : World.alloc _ _ = V0
  have g : Below w.heap.size w V0 := by rw [← hY]; go_grown
  have Z1 : ChC V0 w.heap.size 0 ⟨x0, ⟨bt, bk, bv, bs⟩, x5, ⟨at', ak, av, sa⟩⟩ := by rw [← hY]; exact ⟨by simp [go_sem], by simp [go_sem], by simp [go_sem], by simp [go_sem], by simp [go_sem], by simp [go_sem], by simp [go_sem], by simp [go_sem], by simp [go_sem], by simp [go_sem]⟩
  have Z2 : ChC V0 (w.heap.size + 1) 0 ⟨false, ⟨0, 0, 0, ⟨#[]⟩⟩, false, ⟨0, 0, 0, ⟨#[]⟩⟩⟩ := by rw [← hY]; exact ⟨by simp [go_sem], by simp [go_sem], by simp [go_sem], by simp [go_sem], by simp [go_sem], by simp [go_sem], by simp [go_sem], by simp [go_sem], by simp [go_sem], by simp [go_sem]⟩
  have Z3 : ChC V0 (w.heap.size + 2) 0 ⟨false, ⟨0, 0, 0, ⟨#[]⟩⟩, false, ⟨0, 0, 0, ⟨#[]⟩⟩⟩ := by rw [← hY]; exact ⟨by simp [go_sem], by simp [go_sem], by simp [go_sem], by simp [go_sem], by simp [go_sem], by simp [go_sem], by simp [go_sem], by simp [go_sem], by simp [go_sem], by simp [go_sem]⟩
  have F2 : ∀ c, V0.frozen? ⟨w.heap.size + 1, c, none⟩ = false := by intro c; rw [← hY]; simp [go_sem]
  have F3 : ∀ c, V0.frozen? ⟨w.heap.size + 2, c, none⟩ = false := by intro c; rw [← hY]; simp [go_sem]
  clear hY
  obtain ⟨b2, hb2⟩ : ∃ b, b = w.heap.size + 1 := ⟨_, rfl⟩
  obtain ⟨b3, hb3⟩ : ∃ b, b = w.heap.size + 2 := ⟨_, rfl⟩
  rw [← hb2] at Z2 F2
  rw [← hb3] at Z3 F3
  have HB2 : Hid (b2 = w.heap.size + 1) := hb2
  have HB3 : Hid (b3 = w.heap.size + 2) := hb3
  try simp only [Nat.add_assoc, Nat.reduceAdd]
  rw [← hb3, ← hb2]
  clear hb2 hb3
  have hlo : w.heap.size ≤ b3 := by have := HB3.out; omega
  have n13 : w.heap.size ≠ b3 := by have := HB3.out; omega
  have n31 : b3 ≠ w.heap.size := by have := HB3.out; omega
  have n23 : b2 ≠ b3 := by have := HB3.out; have := HB2.out; omega
  have n32 : b3 ≠ b2 := by have := HB3.out; have := HB2.out; omega
  have HT1 : Hid (w.heap.size < b3 ∨ b3 + 1 ≤ w.heap.size) := by have := HB3.out; show _ ∨ _; omega
  have HT2 : Hid (b2 < b3 ∨ b3 + 1 ≤ b2) := by have := HB3.out; have := HB2.out; show _ ∨ _; omega
  obtain ⟨c0, c1, c2, c3, c4, c5, c6, c7, c8, c9⟩ := Z1
  dsimp only at c0 c1 c2 c3 c4 c5 c6 c7 c8 c9
  obtain ⟨z0, z1, z2, z3, z4, z5, z6, z7, z8, z9⟩ := Z3
  dsimp only at z0 z1 z2 z3 z4 z5 z6 z7 z8 z9
  have f0 := F3 0
  go_upto_region 3 with (fail)
  generalize hY : World.setCell _ _ _ = V1
  have Z3 : ChC V1 b3 0 ⟨x0, ⟨0, 0, 0, ⟨#[]⟩⟩, false, ⟨0, 0, 0, ⟨#[]⟩⟩⟩ := by rw [← hY]; clear hY; exact ⟨by simp [go_sem, *], by simp [go_sem, *], by simp [go_sem, *], by simp [go_sem, *], by simp [go_sem, *], by simp [go_sem, *], by simp [go_sem, *], by simp [go_sem, *], by simp [go_sem, *], by simp [go_sem, *]⟩
  have T : Turned b3 (b3 + 1) V0 V1 := by
    rw [← hY]
    exact ((Turned.refl _ _ _).setCell (p := ⟨b3, 0, none⟩) (Nat.le_refl _) (Nat.lt_succ_self _) _)
  have F2' : ∀ c, V1.frozen? ⟨b2, c, none⟩ = false := by intro c; rw [← hY]; simp [go_sem, F2]
  have F3' : ∀ c, V1.frozen? ⟨b3, c, none⟩ = false := by intro c; rw [← hY]; simp [go_sem, F3]
  have Z1 : ChC V0 w.heap.size 0 ⟨x0, ⟨bt, bk, bv, bs⟩, x5, ⟨at', ak, av, sa⟩⟩ := ⟨c0, c1, c2, c3, c4, c5, c6, c7, c8, c9⟩
  have Z1 := Z1.turned T HT1.out
  have Z2 := Z2.turned T HT2.out
  have F2 := F2'
  have F3 := F3'
  have g : Below w.heap.size w V1 := g.trans (T.toBelow g.size hlo)
  clear hY T F2' F3' c0 c1 c2 c3 c4 c5 c6 c7 c8 c9 z0 z1 z2 z3 z4 z5 z6 z7 z8 z9 f0
  obtain ⟨c0, c1, c2, c3, c4, c5, c6, c7, c8, c9⟩ := Z1
  dsimp only at c0 c1 c2 c3 c4 c5 c6 c7 c8 c9
  go_wp2_with fail
  refine (toRow_any bt bk bv bs _).mono ?_
  rintro e U2 ⟨rfl, gg⟩
  have Z1 : ChC V1 w.heap.size 0 ⟨x0, ⟨bt, bk, bv, bs⟩, x5, ⟨at', ak, av, sa⟩⟩ := ⟨c0, c1, c2, c3, c4, c5, c6, c7, c8, c9⟩
  have Z1 := Z1.below gg Z1.lt
  have hl2 := Z2.lt
  have hl3 := Z3.lt
  have Z2 := Z2.below gg hl2
  have Z3 := Z3.below gg hl3
  have F2 : ∀ c, U2.frozen? ⟨b2, c, none⟩ = false := fun c => (gg.frozen (p := ⟨b2, c, none⟩) hl2).trans (F2 c)
  have F3 : ∀ c, U2.frozen? ⟨b3, c, none⟩ = false := fun c => (gg.frozen (p := ⟨b3, c, none⟩) hl3).trans (F3 c)
  have g := g.trans (gg.mono g.size)
  clear gg hl2 hl3 c0 c1 c2 c3 c4 c5 c6 c7 c8 c9
  obtain ⟨c0, c1, c2, c3, c4, c5, c6, c7, c8, c9⟩ := Z1
  dsimp only at c0 c1 c2 c3 c4 c5 c6 c7 c8 c9
  obtain ⟨z0, z1, z2, z3, z4, z5, z6, z7, z8, z9⟩ := Z3
  dsimp only at z0 z1 z2 z3 z4 z5 z6 z7 z8 z9
  have f1 := F3 1
  have f2 := F3 2
  have f3 := F3 3
  have f4 := F3 4
  go_upto_region 4 with (fail)
  generalize hY : World.setCell _ _ _ = V2
  have Z3 : ChC V2 b3 0 ⟨x0, ⟨bt, bk, bv, bs⟩, false, ⟨0, 0, 0, ⟨#[]⟩⟩⟩ := by rw [← hY]; clear hY; exact ⟨by simp [go_sem, *], by simp [go_sem, *], by simp [go_sem, *], by simp [go_sem, *], by simp [go_sem, *], by simp [go_sem, *], by simp [go_sem, *], by simp [go_sem, *], by simp [go_sem, *], by simp [go_sem, *]⟩
  have T : Turned b3 (b3 + 1) U2 V2 := by
    rw [← hY]
    exact (((((Turned.refl _ _ _).setCell (p := ⟨b3, 1, none⟩) (Nat.le_refl _) (Nat.lt_succ_self _) _).setCell (p := ⟨b3, 2, none⟩) (Nat.le_refl _) (Nat.lt_succ_self _) _).setCell (p := ⟨b3, 3, none⟩) (Nat.le_refl _) (Nat.lt_succ_self _) _).setCell (p := ⟨b3, 4, none⟩) (Nat.le_refl _) (Nat.lt_succ_self _) _)
  have F2' : ∀ c, V2.frozen? ⟨b2, c, none⟩ = false := by intro c; rw [← hY]; simp [go_sem, F2]
  have F3' : ∀ c, V2.frozen? ⟨b3, c, none⟩ = false := by intro c; rw [← hY]; simp [go_sem, F3]
  have Z1 : ChC U2 w.heap.size 0 ⟨x0, ⟨bt, bk, bv, bs⟩, x5, ⟨at', ak, av, sa⟩⟩ := ⟨c0, c1, c2, c3, c4, c5, c6, c7, c8, c9⟩
  have Z1 := Z1.turned T HT1.out
  have Z2 := Z2.turned T HT2.out
  have F2 := F2'
  have F3 := F3'
  have g : Below w.heap.size w V2 := g.trans (T.toBelow g.size hlo)
  clear hY T F2' F3' c0 c1 c2 c3 c4 c5 c6 c7 c8 c9 z0 z1 z2 z3 z4 z5 z6 z7 z8 z9 f1 f2 f3 f4
  obtain ⟨c0, c1, c2, c3, c4, c5, c6, c7, c8, c9⟩ := Z1
  dsimp only at c0 c1 c2 c3 c4 c5 c6 c7 c8 c9
  obtain ⟨z0, z1, z2, z3, z4, z5, z6, z7, z8, z9⟩ := Z3
  dsimp only at z0 z1 z2 z3 z4 z5 z6 z7 z8 z9
  have f5 := F3 5
  go_upto_region 5 with (fail)
  generalize hY : World.setCell _ _ _ = V3
  have Z3 : ChC V3 b3 0 ⟨x0, ⟨bt, bk, bv, bs⟩, x5, ⟨0, 0, 0, ⟨#[]⟩⟩⟩ := by rw [← hY]; clear hY; exact ⟨by simp [go_sem, *], by simp [go_sem, *], by simp [go_sem, *], by simp [go_sem, *], by simp [go_sem, *], by simp [go_sem, *], by simp [go_sem, *], by simp [go_sem, *], by simp [go_sem, *], by simp [go_sem, *]⟩
  have T : Turned b3 (b3 + 1) V2 V3 := by
    rw [← hY]
    exact ((Turned.refl _ _ _).setCell (p := ⟨b3, 5, none⟩) (Nat.le_refl _) (Nat.lt_succ_self _) _)
  have F2' : ∀ c, V3.frozen? ⟨b2, c, none⟩ = false := by intro c; rw [← hY]; simp [go_sem, F2]
  have F3' : ∀ c, V3.frozen? ⟨b3, c, none⟩ = false := by intro c; rw [← hY]; simp [go_sem, F3]
  have Z1 : ChC V2 w.heap.size 0 ⟨x0, ⟨bt, bk, bv, bs⟩, x5, ⟨at', ak, av, sa⟩⟩ := ⟨c0, c1, c2, c3, c4, c5, c6, c7, c8, c9⟩
  have Z1 := Z1.turned T HT1.out
  have Z2 := Z2.turned T HT2.out
  have F2 := F2'
  have F3 := F3'
  have g : Below w.heap.size w V3 := g.trans (T.toBelow g.size hlo)
  clear hY T F2' F3' c0 c1 c2 c3 c4 c5 c6 c7 c8 c9 z0 z1 z2 z3 z4 z5 z6 z7 z8 z9 f5
  obtain ⟨c0, c1, c2, c3, c4, c5, c6, c7, c8, c9⟩ := Z1
  dsimp only at c0 c1 c2 c3 c4 c5 c6 c7 c8 c9
  go_wp2_with fail
  refine (toRow_any at' ak av sa _).mono ?_
  rintro e U4 ⟨rfl, gg⟩
  have Z1 : ChC V3 w.heap.size 0 ⟨x0, ⟨bt, bk, bv, bs⟩, x5, ⟨at', ak, av, sa⟩⟩ := ⟨c0, c1, c2, c3, c4, c5, c6, c7, c8, c9⟩
  have Z1 := Z1.below gg Z1.lt
  have hl2 := Z2.lt
  have hl3 := Z3.lt
  have Z2 := Z2.below gg hl2
  have Z3 := Z3.below gg hl3
  have F2 : ∀ c, U4.frozen? ⟨b2, c, none⟩ = false := fun c => (gg.frozen (p := ⟨b2, c, none⟩) hl2).trans (F2 c)
  have F3 : ∀ c, U4.frozen? ⟨b3, c, none⟩ = false := fun c => (gg.frozen (p := ⟨b3, c, none⟩) hl3).trans (F3 c)
  have g := g.trans (gg.mono g.size)
  clear gg hl2 hl3 c0 c1 c2 c3 c4 c5 c6 c7 c8 c9
  obtain ⟨c0, c1, c2, c3, c4, c5, c6, c7, c8, c9⟩ := Z1
  dsimp only at c0 c1 c2 c3 c4 c5 c6 c7 c8 c9
  obtain ⟨z0, z1, z2, z3, z4, z5, z6, z7, z8, z9⟩ := Z3
  dsimp only at z0 z1 z2 z3 z4 z5 z6 z7 z8 z9
  have f6 := F3 6
  have f7 := F3 7
  have f8 := F3 8
  have f9 := F3 9
  go_upto_region 6 with (fail)
  generalize hY : World.setCell _ _ _ = V4
  have Z3 : ChC V4 b3 0 ⟨x0, ⟨bt, bk, bv, bs⟩, x5, ⟨at', ak, av, sa⟩⟩ := by rw [← hY]; clear hY; exact ⟨by simp [go_sem, *], by simp [go_sem, *], by simp [go_sem, *], by simp [go_sem, *], by simp [go_sem, *], by simp [go_sem, *], by simp [go_sem, *], by simp [go_sem, *], by simp [go_sem, *], by simp [go_sem, *]⟩
  have T : Turned b3 (b3 + 1) U4 V4 := by
    rw [← hY]
    exact (((((Turned.refl _ _ _).setCell (p := ⟨b3, 6, none⟩) (Nat.le_refl _) (Nat.lt_succ_self _) _).setCell (p := ⟨b3, 7, none⟩) (Nat.le_refl _) (Nat.lt_succ_self _) _).setCell (p := ⟨b3, 8, none⟩) (Nat.le_refl _) (Nat.lt_succ_self _) _).setCell (p := ⟨b3, 9, none⟩) (Nat.le_refl _) (Nat.lt_succ_self _) _)
  have F2' : ∀ c, V4.frozen? ⟨b2, c, none⟩ = false := by intro c; rw [← hY]; simp [go_sem, F2]
  have F3' : ∀ c, V4.frozen? ⟨b3, c, none⟩ = false := by intro c; rw [← hY]; simp [go_sem, F3]
  have Z1 : ChC U4 w.heap.size 0 ⟨x0, ⟨bt, bk, bv, bs⟩, x5, ⟨at', ak, av, sa⟩⟩ := ⟨c0, c1, c2, c3, c4, c5, c6, c7, c8, c9⟩
  have Z1 := Z1.turned T HT1.out
  have Z2 := Z2.turned T HT2.out
  have F2 := F2'
  have F3 := F3'
  have g : Below w.heap.size w V4 := g.trans (T.toBelow g.size hlo)
  clear hY T F2' F3' c0 c1 c2 c3 c4 c5 c6 c7 c8 c9 z0 z1 z2 z3 z4 z5 z6 z7 z8 z9 f6 f7 f8 f9
  obtain ⟨z0, z1, z2, z3, z4, z5, z6, z7, z8, z9⟩ := Z3
  dsimp only at z0 z1 z2 z3 z4 z5 z6 z7 z8 z9
  obtain ⟨y0, y1, y2, y3, y4, y5, y6, y7, y8, y9⟩ := Z2
  dsimp only at y0 y1 y2 y3 y4 y5 y6 y7 y8 y9
  have f0 := F2 0
  have f1 := F2 1
  have f2 := F2 2
  have f3 := F2 3
  have f4 := F2 4
  have f5 := F2 5
  have f6 := F2 6
  have f7 := F2 7
  have f8 := F2 8
  have f9 := F2 9
  have hb2l : w.heap.size ≤ b2 := by have := HB2.out; omega
  clear Z1 F2 F3
  go_wp2_with fail
  refine bodyPost_ret (v := .agg #[.bool x0, .int .i64 bt, .int .i64 bk, .int .i64 bv, .string bs, .bool x5, .int .i64 at', .int .i64 ak, .int .i64 av, .string sa]) (by simp [results, Tryz.results83, go_sem, *]) rfl ?_
  exact ⟨rfl, by go_grown⟩

end Go.Proofs.YtpjlpnaamkbicaaGreatDoor
