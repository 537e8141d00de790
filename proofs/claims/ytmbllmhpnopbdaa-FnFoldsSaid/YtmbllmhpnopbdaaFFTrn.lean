/-
  The program's fitsTo and turnRow.
-/
import Derived.Test.YtmbllmhpnopbdaaFFApl
import Derived.Test.YtmbllmhpnopbdaaFFRby
import Derived.Test.YtmbllmhpnopbdaaFFChf

namespace Go.Proofs.Ytmbllmhpnopbdaa
open Go.RowKit Go.Maps
set_option linter.unusedVariables false

theorem ChC.turn {w w' : World} {b o : Nat} {x : Chg} (h : ChC w b o x) {mb : Nat} (ht : w.mapTurned w' mb) : ChC w' b o x :=
  ⟨cell_turn ht h.c0, cell_turn ht h.c1, cell_turn ht h.c2, cell_turn ht h.c3, cell_turn ht h.c4, cell_turn ht h.c5, cell_turn ht h.c6, cell_turn ht h.c7, cell_turn ht h.c8, cell_turn ht h.c9⟩
/-- The map of rows. -/
def fV (rs : List Rw) : Int → Int → Option Value := fun x y => (fR rs x y).map rwA
theorem fV_doL {rs : List Rw} {c : Chg} (h : RisL rs) (hq : chQ c = 0) : fV (doL rs c) = upd (fV rs) (kT c) (kK c) (if c.is = true then some (rwA c.a) else none) := by
  funext x y
  unfold fV upd
  rw [fR_doL h hq]
  by_cases hk : x = kT c ∧ y = kK c
  · rw [if_pos hk, if_pos hk]
    split <;> rfl
  · rw [if_neg hk, if_neg hk]
theorem key_kw {c : Chg} (hq : chQ c = 0) : Kw (kT c) (kK c) := by
  obtain ⟨h1, h2, h3, h4⟩ := chQ_zero hq
  unfold kT kK
  by_cases hi : c.is = true
  · rw [if_pos hi, if_pos hi]
    have := rwF_zero (h4 hi)
    exact kw_small (by unfold small; omega) (by unfold small; omega)
  · rw [if_neg hi, if_neg hi]
    have hw : c.was = true := by rcases h1 with h | h; exact h; exact absurd h hi
    have := rwF_zero (h3 hw)
    exact kw_small (by unfold small; omega) (by unfold small; omega)
theorem key_before {c : Chg} (hq : chQ c = 0) (hw : c.was = true) : kT c = c.b.t ∧ kK c = c.b.k := by
  obtain ⟨h1, h2, h3, h4⟩ := chQ_zero hq
  unfold kT kK
  by_cases hi : c.is = true
  · rw [if_pos hi, if_pos hi]; have := h2 hw hi; exact ⟨this.1.symm, this.2.symm⟩
  · rw [if_neg hi, if_neg hi]; exact ⟨rfl, rfl⟩

set_option maxRecDepth 20000 in
set_option maxHeartbeats 4000000 in
theorem fitsTo_any (mb sz : Nat) (rs : List Rw) (x0 : Bool) (bt bk bv : Int) (bs : ByteArray) (x5 : Bool) (at' ak av : Int) (sa : ByteArray) (w : World) (hM : MapF 65 w mb (fV rs) sz) (hq : chQ ⟨x0, ⟨bt, bk, bv, bs⟩, x5, ⟨at', ak, av, sa⟩⟩ = 0) :
    Calls Try.prog 46 #[.map (some mb), .agg #[.bool x0, .int .i64 bt, .int .i64 bk, .int .i64 bv, .string bs, .bool x5, .int .i64 at', .int .i64 ak, .int .i64 av, .string sa]] w fun e w' => e = .returned (.bool (fitB rs ⟨x0, ⟨bt, bk, bv, bs⟩, x5, ⟨at', ak, av, sa⟩⟩)) ∧ Below w.heap.size w w' := by
  have hkw := key_kw hq
  obtain ⟨Y, hY⟩ : ∃ Y, w.alloc (.cells #[.bool x0, .int .i64 bt, .int .i64 bk, .int .i64 bv, .string bs, .bool x5, .int .i64 at', .int .i64 ak, .int .i64 av, .string sa] 28) = Y := ⟨_, rfl⟩
  have gY : Below w.heap.size w Y := by rw [← hY]; go_grown
  have Z : ChC Y w.heap.size 0 ⟨x0, ⟨bt, bk, bv, bs⟩, x5, ⟨at', ak, av, sa⟩⟩ := by rw [← hY]; exact ⟨by simp [go_sem], by simp [go_sem], by simp [go_sem], by simp [go_sem], by simp [go_sem], by simp [go_sem], by simp [go_sem], by simp [go_sem], by simp [go_sem], by simp [go_sem]⟩
  have hM := hM.below gY
  have hlZ := Z.lt
  cases x0
  · cases x5
    · exact absurd hq (by simp [chQ])
    · have hkw : Kw at' ak := hkw
      have HKw : Hid (Kw at' ak) := hkw
      have HF : Hid (fitB rs ⟨false, ⟨bt, bk, bv, bs⟩, true, ⟨at', ak, av, sa⟩⟩ = !(fR rs at' ak).isSome) := by
        show _ = _
        unfold fitB
        show (match fR rs at' ak with | none => !false | some r => false && rwEq r _) = _
        cases fR rs at' ak <;> rfl
      clear hq hkw
      obtain ⟨c0, c1, c2, c3, c4, c5, c6, c7, c8, c9⟩ := Z
      dsimp only at c0 c1 c2 c3 c4 c5 c6 c7 c8 c9
      go_enter Try.func46, Try.ntmps46
      go_wp2_with fail
      refine (keyOf_any _ _ _ _ _).mono ?_
      rintro e W3 ⟨rfl, g3⟩
      have g := gY.trans (g3.mono gY.size)
      have hl := (hM.below g3).look_ok keyT73 Try.underlying59 (Try.zeroValue26 W3) HKw.out
      simp only [kv] at hl
      have hgs := g.size
      clear c0 c1 c2 c3 c4 c5 c6 c7 c8 c9 gY g3 hM hY
      cases hf : fR rs at' ak with
      | none =>
        have HF2 : Hid (fitB rs ⟨false, ⟨bt, bk, bv, bs⟩, true, ⟨at', ak, av, sa⟩⟩ = true) := by show _ = _; rw [HF.out, hf]; rfl
        have hv : fV rs at' ak = none := by unfold fV; rw [hf]; rfl
        rw [hv] at hl
        simp only [Option.getD_none, Option.isSome_none] at hl
        clear hf hv
        go_wp2_with fail
        go_ret
        exact ⟨by rw [HF2.out]; rfl, by go_grown⟩
      | some r =>
        have HF2 : Hid (fitB rs ⟨false, ⟨bt, bk, bv, bs⟩, true, ⟨at', ak, av, sa⟩⟩ = false) := by show _ = _; rw [HF.out, hf]; rfl
        have hv : fV rs at' ak = some (rwA r) := by unfold fV; rw [hf]; rfl
        rw [hv] at hl
        simp only [Option.getD_some, Option.isSome_some, rwA] at hl
        clear hf hv
        go_wp2_with fail
        go_ret
        exact ⟨by rw [HF2.out]; rfl, by go_grown⟩
  · obtain ⟨k1, k2⟩ := key_before hq rfl
    have HKw : Hid (Kw bt bk) := by show Kw _ _; rw [k1, k2] at hkw; exact hkw
    have HF : Hid (fitB rs ⟨true, ⟨bt, bk, bv, bs⟩, x5, ⟨at', ak, av, sa⟩⟩ = match fR rs bt bk with | none => false | some r => rwEq r ⟨bt, bk, bv, bs⟩) := by
      show _ = _
      unfold fitB
      rw [k1, k2]
      show (match fR rs bt bk with | none => !true | some r => true && rwEq r _) = _
      cases fR rs bt bk <;> rfl
    clear hq hkw k1 k2
    obtain ⟨c0, c1, c2, c3, c4, c5, c6, c7, c8, c9⟩ := Z
    dsimp only at c0 c1 c2 c3 c4 c5 c6 c7 c8 c9
    go_enter Try.func46, Try.ntmps46
    go_wp2_with fail
    refine (keyOf_any _ _ _ _ _).mono ?_
    rintro e W3 ⟨rfl, g3⟩
    have g := gY.trans (g3.mono gY.size)
    have hl := (hM.below g3).look_ok keyT73 Try.underlying59 (Try.zeroValue26 W3) HKw.out
    simp only [kv] at hl
    have hgs := g.size
    have Z : ChC W3 w.heap.size 0 ⟨true, ⟨bt, bk, bv, bs⟩, x5, ⟨at', ak, av, sa⟩⟩ := ChC.below (w := Y) ⟨c0, c1, c2, c3, c4, c5, c6, c7, c8, c9⟩ g3 hlZ
    clear c0 c1 c2 c3 c4 c5 c6 c7 c8 c9 gY hM hY
    cases hf : fR rs bt bk with
    | none =>
      have HF2 : Hid (fitB rs ⟨true, ⟨bt, bk, bv, bs⟩, x5, ⟨at', ak, av, sa⟩⟩ = false) := by show _ = _; rw [HF.out, hf]
      have hv : fV rs bt bk = none := by unfold fV; rw [hf]; rfl
      rw [hv] at hl
      simp only [Option.getD_none, Option.isSome_none] at hl
      clear hf hv Z
      go_wp2_with fail
      go_ret
      exact ⟨by rw [HF2.out]; rfl, by go_grown⟩
    | some r =>
      have HF2 : Hid (fitB rs ⟨true, ⟨bt, bk, bv, bs⟩, x5, ⟨at', ak, av, sa⟩⟩ = rwEq r ⟨bt, bk, bv, bs⟩) := by show _ = _; rw [HF.out, hf]
      have hv : fV rs bt bk = some (rwA r) := by unfold fV; rw [hf]; rfl
      obtain ⟨_, e1, e2⟩ := fR_mem hf
      rw [hv] at hl
      simp only [Option.getD_some, Option.isSome_some, rwA] at hl
      clear hf hv
      obtain ⟨rt, rk, rv, rst⟩ := r
      dsimp only at e1 e2 hl
      subst e1 e2
      go_upto_region 3 with (fail)
      generalize hY : World.alloc _ _ = Y2
      have gY : Below W3.heap.size W3 Y2 := by rw [← hY]; go_grown
      have C : RowC Y2 W3.heap.size 0 ⟨rt, rk, rv, rst⟩ := by rw [← hY]; exact ⟨by simp [go_sem], by simp [go_sem], by simp [go_sem], by simp [go_sem]⟩
      have Z := Z.below gY Z.lt
      have g := g.trans (gY.mono g.size)
      clear hY gY hl g3
      generalize W3.heap.size = rb at C ⊢
      obtain ⟨c0, c1, c2, c3, c4, c5, c6, c7, c8, c9⟩ := Z
      dsimp only at c0 c1 c2 c3 c4 c5 c6 c7 c8 c9
      obtain ⟨p0, p1, p2, p3⟩ := C
      dsimp only at p0 p1 p2 p3
      by_cases hv : rv = bv
      · subst hv
        by_cases hsq : rst = bs
        · subst hsq
          have HF3 : Hid (fitB rs ⟨true, ⟨rt, rk, rv, rst⟩, x5, ⟨at', ak, av, sa⟩⟩ = true) := by show _ = _; rw [HF2.out]; simp [rwEq]
          go_wp2_with fail
          go_ret
          exact ⟨by rw [HF3.out]; rfl, g⟩
        · have dd : ¬ rst.toList = bs.toList := fun h => hsq (by rw [ByteArray.toList_eq, ByteArray.toList_eq] at h; exact ByteArray.ext (Array.toList_inj.1 h))
          have HF3 : Hid (fitB rs ⟨true, ⟨rt, rk, rv, bs⟩, x5, ⟨at', ak, av, sa⟩⟩ = false) := by show _ = _; rw [HF2.out]; simp [rwEq, hsq]
          go_wp2_with fail
          go_ret
          exact ⟨by rw [HF3.out]; rfl, g⟩
      · have dd : (rv == bv) = false := by simpa using hv
        have HF3 : Hid (fitB rs ⟨true, ⟨rt, rk, bv, bs⟩, x5, ⟨at', ak, av, sa⟩⟩ = false) := by show _ = _; rw [HF2.out]; simp [rwEq, hv]
        go_wp2_with fail
        go_ret
        exact ⟨by rw [HF3.out]; rfl, g⟩

/-- What turnRow does to the map. -/
def TrPost (B mb : Nat) (rs : List Rw) (c : Chg) (w : World) (e : Ending) (w' : World) : Prop :=
  Below B w w' ∧ ((chQ c ≠ 0 ∧ e = .returned (.int .i64 (chQ c))) ∨ (chQ c = 0 ∧ fitB rs c = false ∧ e = .returned (.int .i64 8)) ∨ (chQ c = 0 ∧ fitB rs c = true ∧ e = .returned (.int .i64 0) ∧ MapF 65 w' mb (fV (doL rs c)) (doL rs c).length))

set_option maxRecDepth 20000 in
set_option maxHeartbeats 4000000 in
theorem turnRow_any (B mb : Nat) (rs : List Rw) (x0 : Bool) (bt bk bv : Int) (bs : ByteArray) (x5 : Bool) (at' ak av : Int) (sa : ByteArray) (w : World) (hM : MapF 65 w mb (fV rs) rs.length) (hr : RisL rs) (hB : B ≤ mb) (hb : bs.size ≤ maxLen) (ha : sa.size ≤ maxLen) :
    Calls Try.prog 30 #[.map (some mb), .agg #[.bool x0, .int .i64 bt, .int .i64 bk, .int .i64 bv, .string bs, .bool x5, .int .i64 at', .int .i64 ak, .int .i64 av, .string sa]] w fun e w' => TrPost B mb rs ⟨x0, ⟨bt, bk, bv, bs⟩, x5, ⟨at', ak, av, sa⟩⟩ w e w' := by
  have hBw : B ≤ w.heap.size := Nat.le_of_lt (Nat.lt_of_le_of_lt hB hM.lt)
  have hne : mb ≠ w.heap.size := Nat.ne_of_lt hM.lt
  have hrl := hr.len
  have HR : Hid (RisL rs) := hr
  have HF := fun W => changeFault_any x0 bt bk bv bs x5 at' ak av sa W hb ha
  obtain ⟨q, hq⟩ : ∃ q, q = chQ ⟨x0, ⟨bt, bk, bv, bs⟩, x5, ⟨at', ak, av, sa⟩⟩ := ⟨_, rfl⟩
  have HQ : Hid (chQ ⟨x0, ⟨bt, bk, bv, bs⟩, x5, ⟨at', ak, av, sa⟩⟩ = q) := hq.symm
  rw [← hq] at HF
  clear hq hr hb ha
  obtain ⟨Y, hY⟩ : ∃ Y, w.alloc (.cells #[.bool x0, .int .i64 bt, .int .i64 bk, .int .i64 bv, .string bs, .bool x5, .int .i64 at', .int .i64 ak, .int .i64 av, .string sa] 28) = Y := ⟨_, rfl⟩
  have gY : Below w.heap.size w Y := by rw [← hY]; go_grown
  have Z : ChC Y w.heap.size 0 ⟨x0, ⟨bt, bk, bv, bs⟩, x5, ⟨at', ak, av, sa⟩⟩ := by rw [← hY]; exact ⟨by simp [go_sem], by simp [go_sem], by simp [go_sem], by simp [go_sem], by simp [go_sem], by simp [go_sem], by simp [go_sem], by simp [go_sem], by simp [go_sem], by simp [go_sem]⟩
  have hM := hM.below gY
  have hlZ := Z.lt
  obtain ⟨c0, c1, c2, c3, c4, c5, c6, c7, c8, c9⟩ := Z
  dsimp only at c0 c1 c2 c3 c4 c5 c6 c7 c8 c9
  by_cases h0 : q = 0
  · subst h0
    have HKw : Hid (Kw (kT ⟨x0, ⟨bt, bk, bv, bs⟩, x5, ⟨at', ak, av, sa⟩⟩) (kK ⟨x0, ⟨bt, bk, bv, bs⟩, x5, ⟨at', ak, av, sa⟩⟩)) := key_kw HQ.out
    have hfit := fun W (hW : Below Y.heap.size Y W) => fitsTo_any mb rs.length rs x0 bt bk bv bs x5 at' ak av sa W (hM.below hW) HQ.out
    have HD : Hid (fV (doL rs ⟨x0, ⟨bt, bk, bv, bs⟩, x5, ⟨at', ak, av, sa⟩⟩) = upd (fV rs) (kT ⟨x0, ⟨bt, bk, bv, bs⟩, x5, ⟨at', ak, av, sa⟩⟩) (kK ⟨x0, ⟨bt, bk, bv, bs⟩, x5, ⟨at', ak, av, sa⟩⟩) (if x5 = true then some (rwA ⟨at', ak, av, sa⟩) else none)) := fV_doL HR.out HQ.out
    have HLn : Hid ((doL rs ⟨x0, ⟨bt, bk, bv, bs⟩, x5, ⟨at', ak, av, sa⟩⟩).length = (if (fR rs (kT ⟨x0, ⟨bt, bk, bv, bs⟩, x5, ⟨at', ak, av, sa⟩⟩) (kK ⟨x0, ⟨bt, bk, bv, bs⟩, x5, ⟨at', ak, av, sa⟩⟩)).isSome = true then rs.length - 1 else rs.length) + (if x5 = true then 1 else 0)) := doL_len HR.out
    go_enter Try.func30, Try.ntmps30
    go_wp2_with fail
    refine (HF _).mono ?_
    rintro e W3 ⟨rfl, g3⟩
    have Z : ChC W3 w.heap.size 0 ⟨x0, ⟨bt, bk, bv, bs⟩, x5, ⟨at', ak, av, sa⟩⟩ := ChC.below (w := Y) ⟨c0, c1, c2, c3, c4, c5, c6, c7, c8, c9⟩ g3 hlZ
    have hM := hM.below g3
    have g := gY.trans (g3.mono gY.size)
    have hfit3 := hfit W3 g3
    clear c0 c1 c2 c3 c4 c5 c6 c7 c8 c9 HF hfit gY hY
    have hlZ := Z.lt
    obtain ⟨c0, c1, c2, c3, c4, c5, c6, c7, c8, c9⟩ := Z
    dsimp only at c0 c1 c2 c3 c4 c5 c6 c7 c8 c9
    rcases Bool.eq_false_or_eq_true (fitB rs ⟨x0, ⟨bt, bk, bv, bs⟩, x5, ⟨at', ak, av, sa⟩⟩) with hft | hft
    · have HFt : Hid (fitB rs ⟨x0, ⟨bt, bk, bv, bs⟩, x5, ⟨at', ak, av, sa⟩⟩ = true) := hft
      rw [hft] at hfit3
      clear hft
      go_upto_region 6 with (go_at_call 46; refine hfit3.mono ?_; rintro e W4 ⟨rfl, g4⟩)
      have Z : ChC W4 w.heap.size 0 ⟨x0, ⟨bt, bk, bv, bs⟩, x5, ⟨at', ak, av, sa⟩⟩ := ChC.below (w := W3) ⟨c0, c1, c2, c3, c4, c5, c6, c7, c8, c9⟩ g4 hlZ
      have hM := hM.below g4
      have g := g.trans (g4.mono g.size)
      clear c0 c1 c2 c3 c4 c5 c6 c7 c8 c9 g4 g3 hfit3
      cases x5
      · have hw : x0 = true := by
          have := (chQ_zero HQ.out).1
          simpa using this
        subst hw
        obtain ⟨k1, k2⟩ := key_before HQ.out rfl
        have k1 : kT ⟨true, ⟨bt, bk, bv, bs⟩, false, ⟨at', ak, av, sa⟩⟩ = bt := k1
        have k2 : kK ⟨true, ⟨bt, bk, bv, bs⟩, false, ⟨at', ak, av, sa⟩⟩ = bk := k2
        rw [k1, k2] at HKw HD HLn
        clear k1 k2
        obtain ⟨c0, c1, c2, c3, c4, c5, c6, c7, c8, c9⟩ := Z
        dsimp only at c0 c1 c2 c3 c4 c5 c6 c7 c8 c9
        go_wp2_with fail
        refine (keyOf_any _ _ _ _ _).mono ?_
        rintro e W5 ⟨rfl, g5⟩
        have hM := hM.below g5
        have g := g.trans (g5.mono g.size)
        obtain ⟨W8, e8, m8, t8⟩ := hM.drop keyT73 Try.underlying59 HKw.out 0
        simp only [kv] at e8
        have hlt1 := hM.lt
        have gT := turned_below t8 hB hlt1
        have g8 : Below B w W8 := (g.mono hBw).trans gT
        have HM8 : Hid (MapF 65 W8 mb (fV (doL rs ⟨true, ⟨bt, bk, bv, bs⟩, false, ⟨at', ak, av, sa⟩⟩)) (doL rs ⟨true, ⟨bt, bk, bv, bs⟩, false, ⟨at', ak, av, sa⟩⟩).length) := by
          show MapF _ _ _ _ _
          rw [HD.out, HLn.out]
          have : (fV rs bt bk).isSome = (fR rs bt bk).isSome := by unfold fV; simp
          rw [this] at m8
          exact m8
        clear c0 c1 c2 c3 c4 c5 c6 c7 c8 c9 m8 t8 gT hM g5 g
        go_wp2_with fail
        go_ret
        exact ⟨g8, .inr (.inr ⟨HQ.out, HFt.out, rfl, HM8.out⟩)⟩
      · have HKw : Hid (Kw at' ak) := HKw.out
        obtain ⟨c0, c1, c2, c3, c4, c5, c6, c7, c8, c9⟩ := Z
        dsimp only at c0 c1 c2 c3 c4 c5 c6 c7 c8 c9
        go_upto_region 7 with (fail)
        have Z : ChC W4 w.heap.size 0 ⟨x0, ⟨bt, bk, bv, bs⟩, true, ⟨at', ak, av, sa⟩⟩ := ⟨c0, c1, c2, c3, c4, c5, c6, c7, c8, c9⟩
        clear c0 c1 c2 c3 c4 c5 c6 c7 c8 c9
        refine wp_region_held_drew (S := fun V => ChC V w.heap.size 0 ⟨x0, ⟨bt, bk, bv, bs⟩, true, ⟨at', ak, av, sa⟩⟩ ∧ Below B w V) (by kernel_rfl) ⟨Z.below (Below.refl _ _).drew Z.lt, (g.mono hBw).trans (Below.refl _ _).drew⟩ (fun hHeld => ?_)
        have hM := hM.below (Below.refl W4.heap.size W4).drew
        clear Z g
        generalize W4.drew = D at hHeld hM ⊢
        refine wpAnyH_take (i := 0) (v := ?v1) rfl (by kernel_rfl) (by kernel_rfl) (by kernel_rfl) (fun _ _ _ h => h) (Or.inl ⟨by kernel_rfl, ?h1⟩) hHeld ?_
        case h1 => intro u hSw; obtain ⟨v0, v1, v2, v3, v4, v5, v6, v7, v8, v9⟩ := hSw.1; dsimp only at v0 v1 v2 v3 v4 v5 v6 v7 v8 v9; clear hSw; go_simp; try with_reducible rfl
        try simp only [List.getElem_toArray]
        try simp only [List.getElem_cons_succ]
        try simp only [List.getElem_cons_zero]
        try simp only [Act.put]
        try simp only [List.setIfInBounds_toArray]
        try simp only [List.set]
        refine wpAnyH_take (i := 1) (v := ?v2) rfl (by kernel_rfl) (by kernel_rfl) (by kernel_rfl) (fun _ _ _ h => h) (Or.inl ⟨by kernel_rfl, ?h2⟩) hHeld ?_
        case h2 => intro u hSw; obtain ⟨v0, v1, v2, v3, v4, v5, v6, v7, v8, v9⟩ := hSw.1; dsimp only at v0 v1 v2 v3 v4 v5 v6 v7 v8 v9; clear hSw; go_simp; try with_reducible rfl
        try simp only [List.getElem_toArray]
        try simp only [List.getElem_cons_succ]
        try simp only [List.getElem_cons_zero]
        try simp only [Act.put]
        try simp only [List.setIfInBounds_toArray]
        try simp only [List.set]
        refine wpAnyH_take (i := 2) (v := ?v3) rfl (by kernel_rfl) (by kernel_rfl) (by kernel_rfl) (fun _ _ _ h => h) (Or.inl ⟨by kernel_rfl, ?h3⟩) hHeld ?_
        case h3 => intro u hSw; obtain ⟨v0, v1, v2, v3, v4, v5, v6, v7, v8, v9⟩ := hSw.1; dsimp only at v0 v1 v2 v3 v4 v5 v6 v7 v8 v9; clear hSw; go_simp; try with_reducible rfl
        try simp only [List.getElem_toArray]
        try simp only [List.getElem_cons_succ]
        try simp only [List.getElem_cons_zero]
        try simp only [Act.put]
        try simp only [List.setIfInBounds_toArray]
        try simp only [List.set]
        refine wpAnyH_take (i := 4) (v := ?v4) rfl (by kernel_rfl) (by kernel_rfl) (by kernel_rfl) (fun _ _ _ h => h) (Or.inl ⟨by kernel_rfl, ?h4⟩) hHeld ?_
        case h4 => intro u hSw; obtain ⟨v0, v1, v2, v3, v4, v5, v6, v7, v8, v9⟩ := hSw.1; dsimp only at v0 v1 v2 v3 v4 v5 v6 v7 v8 v9; clear hSw; go_simp; try with_reducible rfl
        try simp only [List.getElem_toArray]
        try simp only [List.getElem_cons_succ]
        try simp only [List.getElem_cons_zero]
        try simp only [Act.put]
        try simp only [List.setIfInBounds_toArray]
        try simp only [List.set]
        refine wpAnyH_take (i := 5) (v := ?v5) rfl (by kernel_rfl) (by kernel_rfl) (by kernel_rfl) (fun _ _ _ h => h) (Or.inl ⟨by kernel_rfl, ?h5⟩) hHeld ?_
        case h5 => intro u hSw; obtain ⟨v0, v1, v2, v3, v4, v5, v6, v7, v8, v9⟩ := hSw.1; dsimp only at v0 v1 v2 v3 v4 v5 v6 v7 v8 v9; clear hSw; go_simp; try with_reducible rfl
        try simp only [List.getElem_toArray]
        try simp only [List.getElem_cons_succ]
        try simp only [List.getElem_cons_zero]
        try simp only [Act.put]
        try simp only [List.setIfInBounds_toArray]
        try simp only [List.set]
        refine wpAnyH_ready (rs := [3]) (by kernel_rfl) (by simp) ?_
        refine AllReadyH.cons rfl (fun K hK => ?_) AllReadyH.nil
        go_simp
        go_wp2_with (go_at_call 45; refine (keyOf_any _ _ _ _ _).mono ?_; rintro e W7 ⟨rfl, gg⟩)
        refine hK.out _ _ (⟨hHeld.1.below gg hHeld.1.lt, hHeld.2.trans (gg.mono (Nat.le_trans hBw hHeld.2.size))⟩) (fun hHeld => ?_)
        clear hK K
        have hM := hM.below gg
        clear gg
        try simp only [Act.put]
        try simp only [List.setIfInBounds_toArray]
        try simp only [List.set]
        obtain ⟨W8, e8, m8, t8⟩ := hM.store keyT73 Try.underlying59 HKw.out (.agg #[.int .i64 at', .int .i64 ak, .int .i64 av, .string sa]) (by omega)
        simp only [kv] at e8
        have hlt1 := hM.lt
        have gT := turned_below t8 hB hlt1
        refine wpAnyH_ready (rs := [6]) (by kernel_rfl) (by simp) ?_
        refine AllReadyH.cons rfl (fun K hK => ?_) AllReadyH.nil
        go_simp
        refine hK.out _ _ ⟨hHeld.1.turn t8, hHeld.2.trans gT⟩ (fun hHeld => ?_)
        clear hK K e8
        try simp only [Act.put]
        try simp only [List.setIfInBounds_toArray]
        try simp only [List.set]
        refine wpAnyH_done (by kernel_rfl) ?_ _
        have HM8 : Hid (MapF 65 W8 mb (fV (doL rs ⟨x0, ⟨bt, bk, bv, bs⟩, true, ⟨at', ak, av, sa⟩⟩)) (doL rs ⟨x0, ⟨bt, bk, bv, bs⟩, true, ⟨at', ak, av, sa⟩⟩).length) := by
          show MapF _ _ _ _ _
          rw [HD.out, HLn.out]
          have e : nSz (fV rs at' ak) rs.length = (if (fR rs at' ak).isSome = true then rs.length - 1 else rs.length) + 1 := by
            unfold nSz fV
            cases hf : fR rs at' ak with
            | none => simp
            | some r =>
              have : 0 < rs.length := List.length_pos_of_mem (fR_mem hf).1
              simp
              omega
          rw [e] at m8
          exact m8
        obtain ⟨_, g8⟩ := hHeld
        clear m8 t8 gT
        go_wp2_with fail
        go_ret
        exact ⟨g8, .inr (.inr ⟨HQ.out, HFt.out, rfl, HM8.out⟩)⟩
    · have HFt : Hid (fitB rs ⟨x0, ⟨bt, bk, bv, bs⟩, x5, ⟨at', ak, av, sa⟩⟩ = false) := hft
      rw [hft] at hfit3
      clear hft
      go_wp2_with (go_at_call 46; refine hfit3.mono ?_)
      rintro e W4 ⟨rfl, g4⟩
      have g := g.trans (g4.mono g.size)
      clear c0 c1 c2 c3 c4 c5 c6 c7 c8 c9 hM g3 g4 hfit3
      go_wp2_with fail
      go_ret
      exact ⟨g.mono hBw, .inr (.inl ⟨HQ.out, HFt.out, rfl⟩)⟩
  · have d : (q != 0) = true := by simpa using h0
    go_enter Try.func30, Try.ntmps30
    go_wp2_with fail
    refine (HF _).mono ?_
    rintro e W3 ⟨rfl, g3⟩
    have g := gY.trans (g3.mono gY.size)
    clear c0 c1 c2 c3 c4 c5 c6 c7 c8 c9 HF gY hY hM g3
    go_wp2_with fail
    go_ret
    exact ⟨g.mono hBw, .inl ⟨by rw [HQ.out]; exact h0, by rw [HQ.out]; rfl⟩⟩

end Go.Proofs.Ytmbllmhpnopbdaa
