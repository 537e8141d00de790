/-
  The draws of rows of tables: l8Rows, l8Bent.
-/
import Derived.Test.YtmnnkgcknkhgdaaGreatDoorDra
namespace Go.Proofs.YtmnnkgcknkhgdaaGreatDoor
open Go.RowKit
set_option linter.unusedVariables false

def two8 : List Rw := [⟨0, 1, 8, ⟨#[]⟩⟩, ⟨0, 2, 3, ⟨#[]⟩⟩]
theorem ownsRow_two (w : World) : (w.alloc (.cells #[.int .i64 0, .int .i64 1, .int .i64 8, .string ⟨#[]⟩, .int .i64 0, .int .i64 2, .int .i64 3, .string ⟨#[]⟩] 26)).ownsRow w.heap.size 26 4 (.slice (some ⟨w.heap.size, 0, none⟩) 2 2) 2 (flat rwE two8) := by
  refine ⟨by simp [flat, two8, rwE], .inr ⟨w.heap.size, 2, _, rfl, Nat.le_refl _, heap_alloc_new w _, Nat.le_refl _, by unfold maxLen; omega, by simp, by simp [flat, two8, rwE]⟩⟩

theorem ownsRow_turn1 {w w' : World} {base e size : Nat} {v : Value} {n cb : Nat} {xs : List Value} (h : w.ownsRow base e size v n xs) (t : Turned cb (cb + 1) w w') (hne : v.ownBlock ≠ some cb) : w'.ownsRow base e size v n xs :=
  World.ownsRow.kept h (row := some cb) ⟨t.os, t.tape, t.output, t.size, fun k hk hn => t.block k hk (fun h => hn (by rw [show k = cb by omega]))⟩ (.inr hne)

set_option maxRecDepth 20000 in
set_option maxHeartbeats 4000000 in
theorem l8Rows_any (b : Nat) (a : Option Addr) (n c : Nat) (zs : List Int) (i : Int) (w : World) (h : SrcAt w b a n c zs i) (i9 : i ≤ 700) :
    Calls Tryz.prog 43 #[.pointer (some ⟨b, 0, none⟩)] w fun e w' => RdPost b a n c zs i 40 61 w e w' := by
  have hlb := h.lt
  have hi0 := h.i0
  have hL := ownsRow_two w
  obtain ⟨X, hX⟩ : ∃ X, X = w.alloc (.cells #[.int .i64 0, .int .i64 1, .int .i64 8, .string ⟨#[]⟩, .int .i64 0, .int .i64 2, .int .i64 3, .string ⟨#[]⟩] 26) := ⟨_, rfl⟩
  have gX : Below w.heap.size w X := by rw [hX]; go_grown
  rw [← hX] at hL
  have hS := h.below gX
  have tX : Turned b (b + 1) w X := Turned.ofBelow gX
  clear h gX
  go_enter Tryz.func43, Tryz.ntmps43
  go_wp2_with fail
  rw [← hX]
  clear hX
  refine (l1Next_any b a n c zs i 6 _ hS (by omega) (by omega) (by omega)).mono ?_
  rintro e w1 ⟨⟨r, rfl, hr0, hr1⟩, t1, hS1⟩
  have hL1 := ownsRow_src hL t1 (by omega)
  have T1 := tX.trans t1
  clear hL hS tX t1
  obtain ⟨k0, rfl⟩ : ∃ k0 : Nat, r = k0 := ⟨r.toNat, by omega⟩
  go_wp2_with fail
  go_loopw [4, 3] (fun k v wr => ∃ kk : Nat, kk ≤ 5 ∧ k = .int .i64 kk ∧ Turned b (b + 1) w wr ∧ (∃ j, j ≤ i + 1 + 6 * (5 - (kk : Int)) ∧ SrcAt wr b a n c zs j) ∧ ∃ g cap rs, v = .slice (some ⟨g, 0, none⟩) rs.length cap ∧ rs.length + kk ≤ 7 ∧ (∀ r ∈ rs, r.s.size ≤ 9) ∧ wr.ownsRow w.heap.size 26 4 (.slice (some ⟨g, 0, none⟩) rs.length cap) rs.length (flat rwE rs)) (fun k _ _ => (intOf k).toNat)
  case atStart => exact ⟨k0, by omega, rfl, T1, ⟨i + 1, by omega, hS1⟩, _, _, two8, rfl, by simp [two8]; omega, by intro r hr; simp [two8] at hr; rcases hr with rfl | rfl <;> decide, hL1⟩
  case round =>
    clear hL1 T1 hS1
    obtain ⟨kk, hkk, rfl, T, ⟨j, hj, hS⟩, g, cap, rs, rfl, hlen, hss, ho⟩ := hrel
    have hj0 := hS.i0
    have HS : Hid (∀ r ∈ rs, r.s.size ≤ 9) := hss
    obtain ⟨rn, hrn⟩ : ∃ rn, rn = rs.length := ⟨_, rfl⟩
    have HRN : Hid (rs.length = rn) := hrn.symm
    rw [← hrn] at ho hlen ⊢
    clear hrn hss
    by_cases hk0 : 0 < kk
    · have hk1 : (0 : Int) < (kk : Int) := by omega
      go_wp2_with fail
      refine (l1Draw_any b a n c zs j _ hS (by omega)).mono ?_
      rintro e w2 ⟨⟨xt, xk, xv, xs, rfl, _, _, _, hxs⟩, t2, hS2⟩
      have T := T.trans t2
      have ho := ownsRow_src ho t2 (by omega)
      have hsz2 := T.size
      clear t2 hS
      go_upto_region 6 with (fail)
      generalize hY : World.alloc _ _ = Y
      have gY : Below w2.heap.size w2 Y := by rw [← hY]; go_grown
      have C : RowC Y w2.heap.size 0 ⟨xt, xk, xv, xs⟩ := by rw [← hY]; exact ⟨by simp [go_sem], by simp [go_sem], by simp [go_sem], by simp [go_sem]⟩
      have hF : ∀ o, Y.frozen? ⟨w2.heap.size, o, none⟩ = false := by intro o; rw [← hY]; simp [go_sem]
      have hS := hS2.below gY
      have hne : ∀ q, (Value.slice (some ⟨g, 0, none⟩) rn cap).ownBlock = some q → q < w2.heap.size := fun q hq => (ho.lt q hq).2
      have T := T.trans (Turned.ofBelow gY)
      have ho := ownsRow_below ho gY
      clear hY gY hS2
      generalize w2.heap.size = cb at C hsz2 hF hne ⊢
      go_wp2_with fail
      refine (l1Next_any b a n c zs (j + 5) 2 _ hS (by omega) (by omega) (by omega)).mono ?_
      rintro e w3 ⟨⟨r3, rfl, hr30, hr31⟩, t3, hS3⟩
      have f0 := (t3.frozen C.c0 (.inr (by simp only; omega))).trans (hF 0)
      have f3 := (t3.frozen C.c3 (.inr (by simp only; omega))).trans (hF 3)
      have C := C.src t3 (by omega)
      have T := T.trans t3
      have ho := ownsRow_src ho t3 (by omega)
      clear t3 hS hF
      obtain ⟨x0, x1, x2, x3⟩ := C
      dsimp only at x0 x1 x2 x3
      rcases (show r3 = 0 ∨ r3 = 1 by omega) with rfl | rfl
      · clear hr30 hr31
        go_upto_region 7 with (fail)
        generalize hZ : World.setCell _ _ _ = Z
        have C : RowC Z cb 0 ⟨1, xk, xv, xs⟩ := by rw [← hZ]; exact ⟨by simp [go_sem, x0], by simp [go_sem, x1], by simp [go_sem, x2], by simp [go_sem, x3]⟩
        have f3 : Z.frozen? ⟨cb, 3, none⟩ = false := by rw [← hZ]; simp [go_sem, f3]
        have tZ : Turned cb (cb + 1) w3 Z := by rw [← hZ]; exact (Turned.refl _ _ _).setCell (p := ⟨cb, 0, none⟩) (Nat.le_refl _) (Nat.lt_succ_self _) _
        have hS : SrcAt Z b a n c zs (j + 5 + 1) := by rw [← hZ]; exact hS3.setFar (p := ⟨cb, 0, none⟩) (by simp only; omega) _
        have T := T.low (tZ.toBelow T.size hsz2)
        have ho := ownsRow_turn1 ho tZ (fun h => absurd (hne _ h) (by omega))
        clear hZ tZ x0 x1 x2 x3 hS3 f0
        clear f3 hne
        obtain ⟨a', c', e', hcap, hin, _⟩ := SlIn.ofRow rwE_len (by rw [HRN.out]; exact ho)
        rw [HRN.out] at e' hcap
        cases e'
        have hR := hin.reads
        have hAt := l6At_any (some ⟨g, 0, none⟩) rs rn cap 1 xk Z HRN.out (by omega) hR
        have HP : Hid (Calls Tryz.prog 63 #[.slice (some ⟨g, 0, none⟩) rn cap, .agg #[.int .i64 1, .int .i64 xk, .int .i64 xv, .string xs]] Z fun e w' => _) := l6Put_any g rn cap rs 1 xk xv xs Z HRN.out (by omega) hcap hR
        clear hin hR
        obtain ⟨x0, x1, x2, x3⟩ := C
        dsimp only at x0 x1 x2 x3
        go_wp2_with fail
        refine hAt.mono ?_
        rintro e Y2 ⟨r2, rfl, _, hw⟩
        rw [hw]
        clear hw Y2 hAt
        by_cases h2 : r2 < 0
        · go_wp2_with fail
          refine HP.out.mono ?_
          rintro e Y3 ⟨g8, c8, new, rfl, hPut, b8, o8⟩
          have HNL : Hid (new.length = rn + 1) := by show _ = _; rw [hPut.perm.length_eq, List.length_cons, HRN.out]
          have hns : ∀ r ∈ new, r.s.size ≤ 9 := fun r hr => by
            rcases List.mem_cons.1 (hPut.perm.mem_iff.1 hr) with h | h
            · rw [h]; exact Nat.le_trans hxs (by omega)
            · exact HS.out r h
          have hS := hS.below b8
          have hTs := T.size
          have T := T.trans (Turned.ofBelow b8)
          have o8 := ownsRow_base o8 hTs
          clear hPut b8 HP x0 x1 x2 x3 ho
          go_wp2_with fail
          go_roundw
          case rel => exact ⟨kk - 1, by omega, by go_num, T, ⟨j + 5 + 1, by omega, hS⟩, g8, c8, new, rfl, by rw [HNL.out]; omega, hns, o8⟩
          case measure => simp [intOf]; omega
        · clear HP
          go_wp2_with fail
          go_roundw
          case rel => exact ⟨kk - 1, by omega, by go_num, T, ⟨j + 5 + 1, by omega, hS⟩, g, cap, rs, by rw [HRN.out], by rw [HRN.out]; omega, HS.out, by rw [HRN.out]; exact ho⟩
          case measure => simp [intOf]; omega
      · clear hr30 hr31
        go_upto_region 7 with (fail)
        generalize hZ : World.setCell _ _ _ = Z
        have C : RowC Z cb 0 ⟨2, xk, xv, xs⟩ := by rw [← hZ]; exact ⟨by simp [go_sem, x0], by simp [go_sem, x1], by simp [go_sem, x2], by simp [go_sem, x3]⟩
        have f3 : Z.frozen? ⟨cb, 3, none⟩ = false := by rw [← hZ]; simp [go_sem, f3]
        have tZ : Turned cb (cb + 1) w3 Z := by rw [← hZ]; exact (Turned.refl _ _ _).setCell (p := ⟨cb, 0, none⟩) (Nat.le_refl _) (Nat.lt_succ_self _) _
        have hS : SrcAt Z b a n c zs (j + 5 + 1) := by rw [← hZ]; exact hS3.setFar (p := ⟨cb, 0, none⟩) (by simp only; omega) _
        have T := T.low (tZ.toBelow T.size hsz2)
        have ho := ownsRow_turn1 ho tZ (fun h => absurd (hne _ h) (by omega))
        clear hZ tZ x0 x1 x2 x3 hS3 f0
        by_cases h3 : (3 : Int) < (xs.size : Int)
        · obtain ⟨x0, x1, x2, x3⟩ := C
          dsimp only at x0 x1 x2 x3
          go_upto_region 9 with (fail)
          generalize hZ : World.setCell _ _ _ = Z2
          have C : RowC Z2 cb 0 ⟨2, xk, xv, ⟨#[]⟩⟩ := by rw [← hZ]; exact ⟨by simp [go_sem, x0], by simp [go_sem, x1], by simp [go_sem, x2], by simp [go_sem, x3]⟩
          have tZ : Turned cb (cb + 1) Z Z2 := by rw [← hZ]; exact (Turned.refl _ _ _).setCell (p := ⟨cb, 3, none⟩) (Nat.le_refl _) (Nat.lt_succ_self _) _
          have hS : SrcAt Z2 b a n c zs (j + 5 + 1) := by rw [← hZ]; exact hS.setFar (p := ⟨cb, 3, none⟩) (by simp only; omega) _
          have T := T.low (tZ.toBelow T.size hsz2)
          have ho := ownsRow_turn1 ho tZ (fun h => absurd (hne _ h) (by omega))
          clear hZ tZ x0 x1 x2 x3 f3 h3 hne
          obtain ⟨a', c', e', hcap, hin, _⟩ := SlIn.ofRow rwE_len (by rw [HRN.out]; exact ho)
          rw [HRN.out] at e' hcap
          cases e'
          have hR := hin.reads
          have hAt := l6At_any (some ⟨g, 0, none⟩) rs rn cap 2 xk Z2 HRN.out (by omega) hR
          have HP : Hid (Calls Tryz.prog 63 #[.slice (some ⟨g, 0, none⟩) rn cap, .agg #[.int .i64 2, .int .i64 xk, .int .i64 xv, .string ⟨#[]⟩]] Z2 fun e w' => _) := l6Put_any g rn cap rs 2 xk xv ⟨#[]⟩ Z2 HRN.out (by omega) hcap hR
          clear hin hR
          obtain ⟨x0, x1, x2, x3⟩ := C
          dsimp only at x0 x1 x2 x3
          go_wp2_with fail
          refine hAt.mono ?_
          rintro e Y2 ⟨r2, rfl, _, hw⟩
          rw [hw]
          clear hw Y2 hAt
          by_cases h2 : r2 < 0
          · go_wp2_with fail
            refine HP.out.mono ?_
            rintro e Y3 ⟨g8, c8, new, rfl, hPut, b8, o8⟩
            have HNL : Hid (new.length = rn + 1) := by show _ = _; rw [hPut.perm.length_eq, List.length_cons, HRN.out]
            have hns : ∀ r ∈ new, r.s.size ≤ 9 := fun r hr => by
              rcases List.mem_cons.1 (hPut.perm.mem_iff.1 hr) with h | h
              · rw [h]; exact Nat.zero_le 9
              · exact HS.out r h
            have hS := hS.below b8
            have hTs := T.size
            have T := T.trans (Turned.ofBelow b8)
            have o8 := ownsRow_base o8 hTs
            clear hPut b8 HP x0 x1 x2 x3 ho
            go_wp2_with fail
            go_roundw
            case rel => exact ⟨kk - 1, by omega, by go_num, T, ⟨j + 5 + 1, by omega, hS⟩, g8, c8, new, rfl, by rw [HNL.out]; omega, hns, o8⟩
            case measure => simp [intOf]; omega
          · clear HP
            go_wp2_with fail
            go_roundw
            case rel => exact ⟨kk - 1, by omega, by go_num, T, ⟨j + 5 + 1, by omega, hS⟩, g, cap, rs, by rw [HRN.out], by rw [HRN.out]; omega, HS.out, by rw [HRN.out]; exact ho⟩
            case measure => simp [intOf]; omega
        · clear f3 hne
          obtain ⟨a', c', e', hcap, hin, _⟩ := SlIn.ofRow rwE_len (by rw [HRN.out]; exact ho)
          rw [HRN.out] at e' hcap
          cases e'
          have hR := hin.reads
          have hAt := l6At_any (some ⟨g, 0, none⟩) rs rn cap 2 xk Z HRN.out (by omega) hR
          have HP : Hid (Calls Tryz.prog 63 #[.slice (some ⟨g, 0, none⟩) rn cap, .agg #[.int .i64 2, .int .i64 xk, .int .i64 xv, .string xs]] Z fun e w' => _) := l6Put_any g rn cap rs 2 xk xv xs Z HRN.out (by omega) hcap hR
          clear hin hR
          obtain ⟨x0, x1, x2, x3⟩ := C
          dsimp only at x0 x1 x2 x3
          go_wp2_with fail
          refine hAt.mono ?_
          rintro e Y2 ⟨r2, rfl, _, hw⟩
          rw [hw]
          clear hw Y2 hAt
          by_cases h2 : r2 < 0
          · go_wp2_with fail
            refine HP.out.mono ?_
            rintro e Y3 ⟨g8, c8, new, rfl, hPut, b8, o8⟩
            have HNL : Hid (new.length = rn + 1) := by show _ = _; rw [hPut.perm.length_eq, List.length_cons, HRN.out]
            have hns : ∀ r ∈ new, r.s.size ≤ 9 := fun r hr => by
              rcases List.mem_cons.1 (hPut.perm.mem_iff.1 hr) with h | h
              · rw [h]; exact Nat.le_trans hxs (by omega)
              · exact HS.out r h
            have hS := hS.below b8
            have hTs := T.size
            have T := T.trans (Turned.ofBelow b8)
            have o8 := ownsRow_base o8 hTs
            clear hPut b8 HP x0 x1 x2 x3 ho
            go_wp2_with fail
            go_roundw
            case rel => exact ⟨kk - 1, by omega, by go_num, T, ⟨j + 5 + 1, by omega, hS⟩, g8, c8, new, rfl, by rw [HNL.out]; omega, hns, o8⟩
            case measure => simp [intOf]; omega
          · clear HP
            go_wp2_with fail
            go_roundw
            case rel => exact ⟨kk - 1, by omega, by go_num, T, ⟨j + 5 + 1, by omega, hS⟩, g, cap, rs, by rw [HRN.out], by rw [HRN.out]; omega, HS.out, by rw [HRN.out]; exact ho⟩
            case measure => simp [intOf]; omega
    · have hk : kk = 0 := by omega
      subst hk
      go_wp2_with fail
      go_ret
      exact ⟨⟨_, rfl, g, cap, rs, by rw [HRN.out]; rfl, by rw [HRN.out]; omega, HS.out, by rw [HRN.out]; exact ho⟩, T, j, by omega, hS⟩

set_option maxHeartbeats 1000000 in
theorem l8Bent_any (b : Nat) (a : Option Addr) (n c : Nat) (zs : List Int) (i : Int) (w : World) (h : SrcAt w b a n c zs i) (i9 : i ≤ 600) :
    Calls Tryz.prog 17 #[.pointer (some ⟨b, 0, none⟩)] w fun e w' => RdPost b a n c zs i 41 61 w e w' := by
  have hi0 := h.i0
  have hlb := h.lt
  go_enter Tryz.func17, Tryz.ntmps17
  go_wp2_with fail
  refine (l1Chance_any b a n c zs i 6 w h (by omega) (by omega) (by omega)).mono ?_
  rintro e w1 ⟨⟨r, rfl⟩, T1, hS1⟩
  have hsz := T1.size
  clear h
  cases r
  · go_wp2_with fail
    refine (l8Rows_any b a n c zs (i + 1) _ hS1 (by omega)).mono ?_
    rintro e w2 ⟨⟨v, rfl, hG⟩, T2, j, hj, hS2⟩
    have hG : RowsG w.heap.size 61 w2 v := by
      obtain ⟨g, cap, rs, rfl, hl, hss, ho⟩ := hG
      exact ⟨g, cap, rs, rfl, hl, hss, ownsRow_base ho hsz⟩
    have T := T1.trans T2
    clear T1 T2 hS1
    go_wp2_with fail
    go_ret
    exact ⟨⟨_, rfl, hG⟩, T, j, by omega, hS2⟩
  · go_wp2_with fail
    refine (l6BentRows_any b a n c zs (i + 1) _ hS1 (by omega)).mono ?_
    rintro e w2 ⟨⟨v, rfl, hG⟩, T2, j, hj, hS2⟩
    have hG : RowsG w.heap.size 61 w2 v := by
      obtain ⟨g, cap, rs, rfl, hl, hss, ho⟩ := hG
      exact ⟨g, cap, rs, rfl, hl, hss, ownsRow_base ho hsz⟩
    have T := T1.trans T2
    clear T1 T2 hS1
    go_wp2_with fail
    go_ret
    exact ⟨⟨_, rfl, hG⟩, T, j, by omega, hS2⟩

theorem RowsG.base {base base' m : Nat} {w : World} {v : Value} (h : RowsG base m w v) (hb : base' ≤ base) : RowsG base' m w v := by
  obtain ⟨g, cap, rs, rfl, hl, hss, ho⟩ := h
  exact ⟨g, cap, rs, rfl, hl, hss, ownsRow_base ho hb⟩

/-- The numbers that are picked from, laid in a block of their own. -/
theorem intsAt_new {w : World} (cs : Array Value) (t : TypeId) (vs : List Int) (h : cs.toList = vs.map (Value.int .i64)) : IntsAt (w.alloc (.cells cs t)) w.heap.size vs := by
  intro k hk
  have : cs[k]? = some (.int .i64 (vs.getD k 0)) := by
    rw [← Array.getElem?_toList, h, List.getElem?_map, List.getElem?_eq_getElem hk]
    simp [List.getD, List.getElem?_eq_getElem hk]
  unfold World.cell?
  simp only [heap_alloc_new]
  simpa using this

set_option maxRecDepth 20000 in
set_option maxHeartbeats 1000000 in
theorem drawLongestIn_any (a : Option Addr) (n c : Nat) (zs : List Int) (w : World) (rd : Reads w a zs) (hn : zs.length = n) (hm : n ≤ 1048576) (hz : ∀ z ∈ zs, 0 ≤ z ∧ z ≤ 255) :
    Calls Tryz.prog 8 #[.slice a n c] w fun e w' => ∃ v t, e = .returned (.tuple #[v, .int .i64 t]) ∧ RowsG w.heap.size 61 w' v ∧ Below w.heap.size w w' := by
  go_enter Tryz.func8, Tryz.ntmps8
  go_wp2_with fail
  refine (l1Source_any a n c zs w rd hn hm hz).mono ?_
  rintro e w1 ⟨rfl, g1, hl1, hS1⟩
  obtain ⟨b, hb⟩ : ∃ b, b = w.heap.size := ⟨_, rfl⟩
  rw [← hb] at hS1 hl1 ⊢
  have hb1 : w.heap.size ≤ b := by omega
  have hb2 : b ≤ w.heap.size := by omega
  clear hb
  go_wp2_with fail
  refine (l8Bent_any b a n c zs 0 _ hS1 (by omega)).mono ?_
  rintro e w2 ⟨⟨v, rfl, hG⟩, T2, j, hj, hS2⟩
  have hj0 := hS2.i0
  have hs1 := g1.size
  have g2 : Below w.heap.size w w2 := g1.trans (T2.toBelow g1.size (by omega))
  have hl2 : b < w2.heap.size := hS2.lt
  clear hS1 T2 g1
  have gA : ∀ t, Below w2.heap.size w2 (w2.alloc (.cells #[.int .i64 1, .int .i64 2, .int .i64 3, .int .i64 0, .int .i64 4] t)) := fun t => (Below.refl _ _).alloc (Nat.le_refl _) _
  have hI : ∀ t, IntsAt (w2.alloc (.cells #[.int .i64 1, .int .i64 2, .int .i64 3, .int .i64 0, .int .i64 4] t)) w2.heap.size [1, 2, 3, 0, 4] := fun t => intsAt_new _ t _ rfl
  go_wp2_with fail
  refine (l1Pick_any b w2.heap.size 5 a n c zs [1, 2, 3, 0, 4] j _ (hS2.below (gA 2)) (by omega) (hI 2) rfl (by omega) (by omega) hl2).mono ?_
  rintro e w3 ⟨⟨k, _, rfl⟩, T3, hS3⟩
  have hG := ((hG.below (gA 2)).src T3 (by omega)).base hs1
  have g3 : Below w.heap.size w w3 := (g2.trans ((gA 2).mono g2.size)).trans (T3.toBelow (by have := g2.size; simp; omega) (by omega))
  generalize ([1, 2, 3, 0, 4] : List Int).getD k 0 = t
  clear T3 hS3 hS2 gA hI g2
  go_wp2_with fail
  refine bodyPost_ret (v := .tuple #[v, .int .i64 t]) (by simp [results, Tryz.results8, go_sem]) rfl ?_
  exact ⟨v, t, rfl, hG, g3⟩

set_option maxRecDepth 20000 in
set_option maxHeartbeats 1000000 in
theorem drawKeyText_any (a : Option Addr) (n c : Nat) (zs : List Int) (w : World) (rd : Reads w a zs) (hn : zs.length = n) (hm : n ≤ 1048576) (hz : ∀ z ∈ zs, 0 ≤ z ∧ z ≤ 255) :
    Calls Tryz.prog 13 #[.slice a n c] w fun e w' => ∃ t k, e = .returned (.agg #[.int .i64 t, .int .i64 k]) ∧ Below w.heap.size w w' := by
  have gO : Below w.heap.size w (w.alloc (.cells #[.int .i64 0, .int .i64 0] 41)) := by go_grown
  have rd := rd.below gO (Nat.le_refl _)
  have c0 : (w.alloc (.cells #[.int .i64 0, .int .i64 0] 41)).cell? ⟨w.heap.size, 0, none⟩ = some (.int .i64 0) := by simp [go_sem]
  have c1 : (w.alloc (.cells #[.int .i64 0, .int .i64 0] 41)).cell? ⟨w.heap.size, 1, none⟩ = some (.int .i64 0) := by simp [go_sem]
  have f0 : (w.alloc (.cells #[.int .i64 0, .int .i64 0] 41)).frozen? ⟨w.heap.size, 0, none⟩ = false := by simp [go_sem]
  have f1 : (w.alloc (.cells #[.int .i64 0, .int .i64 0] 41)).frozen? ⟨w.heap.size, 1, none⟩ = false := by simp [go_sem]
  have hXl : w.heap.size < (w.alloc (.cells #[.int .i64 0, .int .i64 0] 41)).heap.size := by simp
  obtain ⟨X, hX⟩ : ∃ X, X = w.alloc (.cells #[.int .i64 0, .int .i64 0] 41) := ⟨_, rfl⟩
  rw [← hX] at rd c0 c1 f0 f1 gO hXl
  go_enter Tryz.func13, Tryz.ntmps13
  go_wp2_with fail
  rw [← hX]
  clear hX
  refine (l1Source_any a n c zs X rd hn hm hz).mono ?_
  rintro e w1 ⟨rfl, g1, hl1, hS1⟩
  have c0 := (g1.cell (p := ⟨w.heap.size, 0, none⟩) hXl).trans c0
  have c1 := (g1.cell (p := ⟨w.heap.size, 1, none⟩) hXl).trans c1
  have f0 := (g1.frozen (p := ⟨w.heap.size, 0, none⟩) hXl).trans f0
  have f1 := (g1.frozen (p := ⟨w.heap.size, 1, none⟩) hXl).trans f1
  have g := gO.trans (g1.mono gO.size)
  obtain ⟨b, hb⟩ : ∃ b, b = X.heap.size := ⟨_, rfl⟩
  rw [← hb] at hS1 hl1 hXl ⊢
  clear hb g1 gO rd
  obtain ⟨ob, hob⟩ : ∃ ob, ob = w.heap.size := ⟨_, rfl⟩
  have hob1 : w.heap.size ≤ ob := by omega
  have hob2 : ob < b := by omega
  rw [← hob] at c0 c1 f0 f1 ⊢
  clear hob hXl
  have gA : ∀ V : World, Below V.heap.size V (V.alloc (.cells #[.int .i64 0, .int .i64 3, .int .i64 4, .int .i64 (-1)] 2)) := fun V => (Below.refl _ _).alloc (Nat.le_refl _) _
  have gB : ∀ V : World, Below V.heap.size V (V.alloc (.cells #[.int .i64 1, .int .i64 99, .int .i64 0, .int .i64 100] 2)) := fun V => (Below.refl _ _).alloc (Nat.le_refl _) _
  go_wp2_with fail
  refine (l1Pick_any b w1.heap.size 4 a n c zs [0, 3, 4, -1] 0 _ (hS1.below (gA _)) (by omega) (intsAt_new _ 2 _ rfl) rfl (by omega) (by omega) hl1).mono ?_
  rintro e w2 ⟨⟨k, _, rfl⟩, T2, hS2⟩
  generalize ([0, 3, 4, -1] : List Int).getD k 0 = t
  have T2 := (Turned.ofBelow (gA w1)).trans T2
  have c0' := T2.cell c0 (.inl (by simp only; omega))
  have c1' := T2.cell c1 (.inl (by simp only; omega))
  have f0 := (T2.frozen c0 (.inl (by simp only; omega))).trans f0
  have f1 := (T2.frozen c1 (.inl (by simp only; omega))).trans f1
  have hgs := g.size
  have g2 : Below w.heap.size w w2 := g.trans (T2.toBelow g.size (by omega))
  have hl2 := hS2.lt
  clear T2 hS1 c0 c1 g gA
  go_wp2_with fail
  refine (l1Pick_any b w2.heap.size 4 a n c zs [1, 99, 0, 100] (0 + 1) _ (hS2.below (gB _)) (by omega) (intsAt_new _ 2 _ rfl) rfl (by omega) (by omega) hl2).mono ?_
  rintro e w3 ⟨⟨k2, _, rfl⟩, T3, hS3⟩
  generalize ([1, 99, 0, 100] : List Int).getD k2 0 = kk
  have T3 := (Turned.ofBelow (gB w2)).trans T3
  have c0 := T3.cell c0' (.inl (by simp only; omega))
  have c1 := T3.cell c1' (.inl (by simp only; omega))
  have f0 := (T3.frozen c0' (.inl (by simp only; omega))).trans f0
  have f1 := (T3.frozen c1' (.inl (by simp only; omega))).trans f1
  have hgs2 := g2.size
  have g3 : Below w.heap.size w w3 := g2.trans (T3.toBelow g2.size (by omega))
  clear T3 hS2 c0' c1' gB hS3
  go_wp2_with fail
  refine bodyPost_ret (v := .agg #[.int .i64 t, .int .i64 kk]) (by simp [results, Tryz.results13, go_sem, *]) rfl ?_
  exact ⟨t, kk, rfl, by go_grown⟩

end Go.Proofs.YtmnnkgcknkhgdaaGreatDoor

