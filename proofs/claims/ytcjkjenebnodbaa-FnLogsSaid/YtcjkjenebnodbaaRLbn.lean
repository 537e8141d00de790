/-
  The contract of l5Bent: a log whose bytes are read.
-/
import Derived.Test.YtcjkjenebnodbaaRLrt

namespace Go.Proofs.Ytcjkjenebnodbaa
open Go.RowKit
set_option linter.unusedVariables false

/-- A log whose bytes lie no lower than lo. -/
structure Lb (lo : Nat) (N : Nat) (w : World) (x y : Option Addr) (xs ys : List Int) (n c m d : Nat) : Prop where
  xl : xs.length = n
  yl : ys.length = m
  c1 : n ≤ c
  c2 : c ≤ 9223372036854775807
  d1 : m ≤ d
  d2 : d ≤ 9223372036854775807
  bx : BytesLo lo w x xs
  by' : BytesLo lo w y ys
  xb : ∀ z ∈ xs, 0 ≤ z ∧ z ≤ 255
  yb : ∀ z ∈ ys, 0 ≤ z ∧ z ≤ 255
  sz : n + m ≤ N
  xn : x = none → c = 0
theorem Gb.noneCap {lo : Nat} {w : World} {a : Option Addr} {n c : Nat} {xs : List Int} (h : Gb lo w (.slice a n c) xs) : a = none → c = 0 := by
  obtain ⟨r2, c2, hv2, _, _, _, h6⟩ := h.shape
  simp only [Value.slice.injEq] at hv2
  rw [hv2.1, hv2.2.2]
  exact h6
section
variable {lo N : Nat} {w w' : World} {x y : Option Addr} {xs ys : List Int} {n c m d : Nat}
theorem Lb.turned {r : Nat} (h : Lb lo N w x y xs ys n c m d) (ht : Dr.Turned r lo w w') : Lb lo N w' x y xs ys n c m d := ⟨h.xl, h.yl, h.c1, h.c2, h.d1, h.d2, h.bx.turned ht, h.by'.turned ht, h.xb, h.yb, h.sz, h.xn⟩
theorem Lb.low {l' : Nat} (h : Lb lo N w x y xs ys n c m d) (hl : l' ≤ lo) : Lb l' N w x y xs ys n c m d := ⟨h.xl, h.yl, h.c1, h.c2, h.d1, h.d2, h.bx.mono hl, h.by'.mono hl, h.xb, h.yb, h.sz, h.xn⟩
theorem Ld.lb (h : Ld lo N w x y xs ys n c m d) : Lb lo N w x y xs ys n c m d := by
  obtain ⟨mid, hw⟩ := h.o
  have h1 := hw.s.caps
  have h2 := hw.l.caps
  exact ⟨h1.1, h2.1, h1.2.1, h1.2.2, h2.2.1, h2.2.2, bytesLo_in hw.s.bytesIn, (bytesLo_in hw.l.bytesIn).mono hw.h1, h.xb, h.yb, h.sz, hw.s.noneCap⟩
end
def LbPost (N b : Nat) (w : World) (e : Ending) (w' : World) : Prop := ∃ x y xs ys n c m d, e = .returned (.agg #[.slice x n c, .slice y m d]) ∧ Lb w.heap.size N w' x y xs ys n c m d ∧ Dr.Turned b (b + 1) w w'

theorem bent_fin {b : Nat} {a : Option Addr} {n c : Nat} {zs : List Int} {i j : Int} {w V V' : World} {x y : Option Addr} {xs ys : List Int} {nn cc m d : Nat}
    (hbl : b < w.heap.size) (hT : Dr.Turned b (b + 1) w V) (hS : Dr.SrcAt V b a n c zs j) (hj : j ≤ i + 4000) (hV : w.heap.size < V.heap.size) (hD : Lb (w.heap.size + 1) 18000 V x y xs ys nn cc m d) (T : Dr.Turned w.heap.size (w.heap.size + 1) V V') :
    LbPost 18000 b w (.returned (.agg #[.slice x nn cc, .slice y m d])) V' ∧ ∃ j, j ≤ i + 4000 ∧ Dr.SrcAt V' b a n c zs j :=
  ⟨⟨x, y, xs, ys, nn, cc, m, d, rfl, (hD.turned T).low (by omega), hT.new T (Nat.le_refl _)⟩, ⟨j, hj, hS.low (T.toBelow (Nat.le_of_lt hV) (Nat.le_refl _)) hbl⟩⟩

theorem Gb.keptBy {base : Nat} {w w' : World} {v : Value} {xs : List Int} {row : Option Nat} (h : Gb base w v xs) (hg : w.grownBy w' row) (hn : ∀ g, v.ownBlock = some g → row ≠ some g) : Gb base w' v xs := by
  refine World.ownsRow.kept h hg ?_
  cases hv : v.ownBlock with
  | none => exact .inl rfl
  | some g => exact .inr (fun e => hn g hv e.symm)
theorem made_bytes {W : World} {base g N : Nat} (hown : W.ownsRow base 5 1 (.slice (some ⟨g, 0, none⟩) N N) N (madeCells (Value.int .u8 0).cells (N * 1)).toList) (hg : base ≤ g) : BytesLo base W (some ⟨g, 0, none⟩) (List.replicate N 0) := by
  refine .inr ⟨g, 0, rfl, hg, fun j hj => ?_⟩
  have hj' : j < N := by simpa using hj
  rw [Nat.zero_add, hown.cellAt j (by omega), Nat.mul_one]
  refine Eq.trans (b := some (Value.int .u8 0)) (made_zero N j hj') ?_
  simp [List.getD, hj']
theorem Dr.Turned.newB {b B : Nat} {w V V' : World} (hT : Dr.Turned b (b + 1) w V) (g : Below B V V') (hB : w.heap.size ≤ B) : Dr.Turned b (b + 1) w V' :=
  ⟨g.os.trans hT.os, g.tape.trans hT.tape, g.output.trans hT.output, Nat.le_trans hT.size g.size, fun k hk hn => (g.block k (by omega)).trans (hT.block k hk hn)⟩

set_option maxRecDepth 20000 in
set_option maxHeartbeats 4000000 in
theorem l5Bent_any (b : Nat) (a : Option Addr) (n c : Nat) (zs : List Int) (i : Int) (w : World) (h : Dr.SrcAt w b a n c zs i) (i9 : i ≤ 90000) :
    Calls Try.prog 75 #[.pointer (some ⟨b, 0, none⟩)] w fun e w' => LbPost 18000 b w e w' ∧ ∃ j, j ≤ i + 4000 ∧ Dr.SrcAt w' b a n c zs j := by
  have hbl := h.lt
  go_enter Try.func75, Try.ntmps75
  go_upto_region 1 with (fail)
  generalize hY : World.alloc _ _ = Y
  have hO : Lc Y w.heap.size (.slice none 0 0) (.slice none 0 0) := by rw [← hY]; exact ⟨by simp [go_sem], by simp [go_sem], by simp [go_sem], by simp [go_sem]⟩
  have g0 : Below w.heap.size w Y := by rw [← hY]; go_grown
  have hsY : Y.heap.size = w.heap.size + 1 := by rw [← hY]; simp
  have hS := h.below g0
  have hT : Dr.Turned b (b + 1) w Y := Dr.Turned.ofBelow g0
  clear hY g0 h
  go_wp2_with fail
  refine (l5Right_any b a n c zs i _ hS (by omega)).mono ?_
  rintro e w1 ⟨⟨x, y, xs, ys, nn, cc, m, d, rfl, hD, ht⟩, ⟨j, hj, hS⟩⟩
  rw [hsY] at hD
  have hO := hO.turned ht (.inr (by omega))
  have hT := hT.trans ht
  clear ht hsY
  go_upto_region 2 with (fail)
  generalize hY : World.alloc _ _ = Y2
  have hL : Lc Y2 w1.heap.size (.slice x nn cc) (.slice y m d) := by rw [← hY]; exact ⟨by simp [go_sem], by simp [go_sem], by simp [go_sem], by simp [go_sem]⟩
  have g2 : Below w1.heap.size w1 Y2 := by rw [← hY]; go_grown
  have HLb : Hid (∀ mid, Lw (w.heap.size + 1) mid w1 x y xs ys nn cc m d → (∀ g, (Value.slice x nn cc).ownBlock = some g → g < w1.heap.size) ∧ (∀ g, (Value.slice y m d).ownBlock = some g → g < w1.heap.size)) := fun mid hw => ⟨fun g e => (World.ownsRow.lt hw.s g e).2, fun g e => (World.ownsRow.lt hw.l g e).2⟩
  obtain ⟨mid, hLw⟩ := hD.o
  obtain ⟨hx1, hy1⟩ := HLb.out mid hLw
  have hm2 := hLw.h2
  have hO1 := hO.lt
  have hO := hO.up g2
  have hS := hS.below g2
  have hT := hT.trans (Dr.Turned.ofBelow g2)
  have hLw := hLw.turned (r := w.heap.size + 1) (Dr.Turned.ofBelow g2)
  have hxb := hD.xb
  have hyb := hD.yb
  have hsz := hD.sz
  generalize w1.heap.size = lb at hL hx1 hy1 hm2 hO1 ⊢
  clear hY g2 hD HLb
  go_wp2_with fail
  refine (Dr.l1Next_any b a n c zs j 12 _ hS (by omega) (by omega) (by omega)).mono ?_
  rintro e w3 ⟨⟨r, rfl, r0, r1⟩, ht, hS⟩
  have hO := hO.turned ht (.inr (by omega))
  have hL := hL.turned ht (.inr (by omega))
  have hLw := hLw.turned (r := b) ⟨ht.os, ht.tape, ht.output, ht.size, fun k hk hn => ht.block k hk (by omega)⟩
  have hT := hT.trans ht
  clear ht
  have hlw := hL.lt
  obtain ⟨hxl, hx2, hx3⟩ := hLw.s.caps
  obtain ⟨hyl, hy2, hy3⟩ := hLw.l.caps
  by_cases h0 : r = 0
  · subst h0
    have L0 := hL.c0
    have M0 := hL.f0
    go_upto_region 4 with (fail)
    go_wp2_with (at_builtin; refine wpList_append_bytes _ rfl _ _ rfl (w.heap.size + 1) _ xs [9] (some ⟨w3.heap.size, 0, none⟩) 1 1 rfl rfl rfl (hLw.s.grown (by go_grown)) (.inr ⟨w3.heap.size, 0, rfl, fun k hk => by
      obtain rfl : k = 0 := by simp at hk; omega
      simp [go_sem]⟩) ?n1 ?n2 ?_)
    case n1 => simp; omega
    case n2 => simp; omega
    intro v' w6 hG6 hgr6 hat6
    have gX : Below w3.heap.size w3 (w3.alloc (.cells #[.int .u8 9] 5)) := by go_grown
    have hsX : (w3.alloc (.cells #[.int .u8 9] 5)).heap.size = w3.heap.size + 1 := by simp
    have hGl := (hLw.l.grown gX).keptBy hgr6 (fun g e e2 => by have h3 := hLw.up g e2; have h4 := (World.ownsRow.lt hLw.l g e).1; omega)
    have hL := (hL.up gX).blk (hgr6.block lb (by omega) (fun e => by have := hx1 lb e.symm; omega))
    have hO := (hO.up gX).blk (hgr6.block w.heap.size (by omega) (fun e => by have := (World.ownsRow.lt hLw.s _ e.symm).1; omega))
    have g6 : Below (w.heap.size + 1) (w3.alloc (.cells #[.int .u8 9] 5)) w6 := Below.grown (Below.refl _ _) hgr6 (by omega) (fun q e => (World.ownsRow.lt hLw.s q e).1)
    have hS := (hS.below gX).low g6 (by omega)
    have hT := (hT.trans (Dr.Turned.ofBelow gX)).newB g6 (by omega)
    have hne : v'.ownBlock ≠ some lb := fun e => by
      rcases hat6 with h | h
      · have := hx1 lb (h.symm.trans e); omega
      · rw [h] at e; injection e with e; omega
    obtain ⟨p, cp, hv', hc1, hc2, _, _⟩ := hG6.shape
    subst hv'
    have hk6 : (xs ++ [9]).length = nn + 1 := by rw [List.length_append, hxl]; rfl
    rw [hk6] at hne hc1 ⊢
    have hG6 : Gb (w.heap.size + 1) w6 (.slice p (nn + 1) cp) (xs ++ [9]) := by have h := hG6; rw [hk6] at h; exact h
    have L0 := hL.c0
    have M0 := hL.f0
    clear hgr6 hat6 gX g6
    go_upto_region 9 with (fail)
    have hL := hL.set0 (.slice p (nn + 1) cp)
    have hO := hO.other (p := ⟨lb, 0, none⟩) (by simp only; omega) (.slice p (nn + 1) cp)
    have hS := hS.setFar (p := ⟨lb, 0, none⟩) (by simp only; omega) (.slice p (nn + 1) cp)
    have hT := hT.setNew (p := ⟨lb, 0, none⟩) (by simp only; omega) (.slice p (nn + 1) cp)
    have hLb : Lb (w.heap.size + 1) 18000 (w6.setCell ⟨lb, 0, none⟩ (.slice p (nn + 1) cp)) p y (xs ++ [9]) ys (nn + 1) cp m d :=
      ⟨hk6, hyl, hc1, hc2, hy2, hy3, bytesLo_in (hG6.setOther hne _).bytesIn, (bytesLo_in (hGl.setOther (p := ⟨lb, 0, none⟩) (fun e => by have := hy1 lb e; omega) _).bytesIn).mono hLw.h1, fun z hz => by
        rcases List.mem_append.1 hz with h1 | h1
        · exact hxb z h1
        · simp at h1; omega, hyb, by omega, hG6.noneCap⟩
    generalize w6.setCell ⟨lb, 0, none⟩ (.slice p (nn + 1) cp) = V8 at hL hO hS hT hLb ⊢
    clear L0 M0 hG6 hGl hLw
    have HF : Hid (∀ V', Dr.Turned w.heap.size (w.heap.size + 1) V8 V' → LbPost 18000 b w (.returned (.agg #[.slice p (nn + 1) cp, .slice y m d])) V' ∧ ∃ j, j ≤ i + 4000 ∧ Dr.SrcAt V' b a n c zs j) := fun V' T => bent_fin hbl hT hS (by omega) hO.lt hLb T
    obtain ⟨L0, L1, _, _⟩ := hL
    obtain ⟨O0, O1, F0, F1⟩ := hO
    clear hS hT hLb
    go_wp2_with fail
    refine bodyPost_ret (v := .agg #[.slice p (nn + 1) cp, .slice y m d]) (by simp [results, Try.results75, go_sem, *]) rfl ?_
    exact HF.out _ (((Dr.Turned.refl _ _ V8).setCell (by simp) (by simp) _).setCell (by simp) (by simp) _)
  · by_cases h1 : r = 1
    · subst h1
      have L1 := hL.c1
      have M1 := hL.f1
      go_upto_region 6 with (fail)
      go_wp2_with (at_builtin; refine wpList_append_bytes _ rfl _ _ rfl mid _ ys [7, 1] (some ⟨w3.heap.size, 0, none⟩) 2 2 rfl rfl rfl (hLw.l.grown (by go_grown)) (.inr ⟨w3.heap.size, 0, rfl, fun k hk => by
        have hk2 : k < 2 := hk
        match k, hk2 with
        | 0, _ => simp [go_sem]
        | 1, _ => simp [go_sem]⟩) ?n1 ?n2 ?_)
      case n1 => simp; omega
      case n2 => simp; omega
      intro v' w6 hG6 hgr6 hat6
      have gX : Below w3.heap.size w3 (w3.alloc (.cells #[.int .u8 7, .int .u8 1] 5)) := by go_grown
      have hsX : (w3.alloc (.cells #[.int .u8 7, .int .u8 1] 5)).heap.size = w3.heap.size + 1 := by simp
      have g6 : Below mid (w3.alloc (.cells #[.int .u8 7, .int .u8 1] 5)) w6 := Below.grown (Below.refl _ _) hgr6 (by omega) (fun q e => (World.ownsRow.lt hLw.l q e).1)
      have hm1 := hLw.h1
      have hGl := (hLw.s.grown gX).under hLw.up g6
      have hL := (hL.up gX).blk (hgr6.block lb (by omega) (fun e => by have := hy1 lb e.symm; omega))
      have hO := (hO.up gX).blk (g6.block w.heap.size (by omega))
      have hS := (hS.below gX).low g6 (by omega)
      have hT := (hT.trans (Dr.Turned.ofBelow gX)).newB g6 (by omega)
      have hne : v'.ownBlock ≠ some lb := fun e => by
        rcases hat6 with h | h
        · have := hy1 lb (h.symm.trans e); omega
        · rw [h] at e; injection e with e; omega
      obtain ⟨p, cp, hv', hc1, hc2, _, _⟩ := hG6.shape
      subst hv'
      have hk6 : (ys ++ [7, 1]).length = m + 2 := by rw [List.length_append, hyl]; rfl
      rw [hk6] at hne hc1 ⊢
      have hG6 : Gb mid w6 (.slice p (m + 2) cp) (ys ++ [7, 1]) := by have h := hG6; rw [hk6] at h; exact h
      have L1 := hL.c1
      have M1 := hL.f1
      clear hgr6 hat6 gX g6
      go_upto_region 9 with (fail)
      have hL := hL.set1 (.slice p (m + 2) cp)
      have hO := hO.other (p := ⟨lb, 1, none⟩) (by simp only; omega) (.slice p (m + 2) cp)
      have hS := hS.setFar (p := ⟨lb, 1, none⟩) (by simp only; omega) (.slice p (m + 2) cp)
      have hT := hT.setNew (p := ⟨lb, 1, none⟩) (by simp only; omega) (.slice p (m + 2) cp)
      have hLb : Lb (w.heap.size + 1) 18000 (w6.setCell ⟨lb, 1, none⟩ (.slice p (m + 2) cp)) x p xs (ys ++ [7, 1]) nn cc (m + 2) cp :=
        ⟨hxl, hk6, hx2, hx3, hc1, hc2, bytesLo_in (hGl.setOther (p := ⟨lb, 1, none⟩) (fun e => by have := hx1 lb e; omega) _).bytesIn, (bytesLo_in (hG6.setOther hne _).bytesIn).mono hm1, hxb, fun z hz => by
          rcases List.mem_append.1 hz with h1 | h1
          · exact hyb z h1
          · simp at h1; omega, by omega, hGl.noneCap⟩
      generalize w6.setCell ⟨lb, 1, none⟩ (.slice p (m + 2) cp) = V8 at hL hO hS hT hLb ⊢
      clear L1 M1 hG6 hGl hLw
      have HF : Hid (∀ V', Dr.Turned w.heap.size (w.heap.size + 1) V8 V' → LbPost 18000 b w (.returned (.agg #[.slice x nn cc, .slice p (m + 2) cp])) V' ∧ ∃ j, j ≤ i + 4000 ∧ Dr.SrcAt V' b a n c zs j) := fun V' T => bent_fin hbl hT hS (by omega) hO.lt hLb T
      obtain ⟨L0, L1, _, _⟩ := hL
      obtain ⟨O0, O1, F0, F1⟩ := hO
      clear hS hT hLb
      go_wp2_with fail
      refine bodyPost_ret (v := .agg #[.slice x nn cc, .slice p (m + 2) cp]) (by simp [results, Try.results75, go_sem, *]) rfl ?_
      exact HF.out _ (((Dr.Turned.refl _ _ V8).setCell (by simp) (by simp) _).setCell (by simp) (by simp) _)
    · by_cases h2 : r = 2
      · subst h2
        obtain ⟨i5, hi5, hz50, hz51, hz52⟩ := info5
        obtain ⟨wm, hrun, hown, hgr⟩ := run_make_full (P := Try.prog) (w := w3) w3.heap.size 22 5 i5 (.int .u8 0) 1 Try.underlying22 hi5 hz50 hz51 .i64 .i64 16001 (by rw [hz52]; omega) (by unfold maxLen; omega) (Nat.le_refl _)
        have hrun : (Instr.makeSlice 22 (.int .i64 16001) (.int .i64 16001)).run Try.prog w3 = .ok (.slice (some ⟨w3.heap.size, 0, none⟩) 16001 16001) wm := hrun
        have gm : Below w3.heap.size w3 wm := Below.grown (Below.refl _ _) hgr (Nat.le_refl _) (fun k hk => by cases hk)
        have HB : Hid (BytesLo w3.heap.size wm (some ⟨w3.heap.size, 0, none⟩) (List.replicate 16001 0)) := made_bytes hown (Nat.le_refl _)
        have hm1 := hLw.h1
        have hbx : BytesLo (w.heap.size + 1) wm x xs := (bytesLo_in (hLw.s.grown gm).bytesIn)
        have hL := hL.up gm
        have hO := hO.up gm
        have hS := hS.below gm
        have hT := hT.trans (Dr.Turned.ofBelow gm)
        have L1 := hL.c1
        have M1 := hL.f1
        have hne : ∀ g, (Value.slice x nn cc).ownBlock = some g → g ≠ lb := fun g e => by have := hx1 g e; omega
        have hGs := hLw.s.grown gm
        clear hi5 hz50 hz51 hz52 hown hgr
        go_upto_region 9 with (fail)
        have hL := hL.set1 (.slice (some ⟨w3.heap.size, 0, none⟩) 16001 16001)
        have hO := hO.other (p := ⟨lb, 1, none⟩) (by simp only; omega) (.slice (some ⟨w3.heap.size, 0, none⟩) 16001 16001)
        have hS := hS.setFar (p := ⟨lb, 1, none⟩) (by simp only; omega) (.slice (some ⟨w3.heap.size, 0, none⟩) 16001 16001)
        have hT := hT.setNew (p := ⟨lb, 1, none⟩) (by simp only; omega) (.slice (some ⟨w3.heap.size, 0, none⟩) 16001 16001)
        have T := (Dr.Turned.refl lb w3.heap.size wm).setCell (p := ⟨lb, 1, none⟩) (by simp) (by simp only; omega) (.slice (some ⟨w3.heap.size, 0, none⟩) 16001 16001)
        have hLb : Lb (w.heap.size + 1) 18000 (wm.setCell ⟨lb, 1, none⟩ (.slice (some ⟨w3.heap.size, 0, none⟩) 16001 16001)) x (some ⟨w3.heap.size, 0, none⟩) xs (List.replicate 16001 0) nn cc 16001 16001 :=
          ⟨hxl, List.length_replicate, hx2, hx3, by omega, by omega, bytesLo_in (hGs.setOther (p := ⟨lb, 1, none⟩) (fun e => hne lb e rfl) _).bytesIn, (HB.out.turned T).mono (by omega), hxb, fun z hz => by
            have := List.eq_of_mem_replicate hz; omega, by omega, hGs.noneCap⟩
        generalize List.replicate 16001 (0 : Int) = us at hLb
        generalize wm.setCell ⟨lb, 1, none⟩ (.slice (some ⟨w3.heap.size, 0, none⟩) 16001 16001) = V8 at hL hO hS hT hLb ⊢
        clear L1 M1 hGs hLw hrun gm HB T hbx
        have HF : Hid (∀ V', Dr.Turned w.heap.size (w.heap.size + 1) V8 V' → LbPost 18000 b w (.returned (.agg #[.slice x nn cc, .slice (some ⟨w3.heap.size, 0, none⟩) 16001 16001])) V' ∧ ∃ j, j ≤ i + 4000 ∧ Dr.SrcAt V' b a n c zs j) := fun V' T => bent_fin hbl hT hS (by omega) hO.lt hLb T
        obtain ⟨L0, L1, _, _⟩ := hL
        obtain ⟨O0, O1, F0, F1⟩ := hO
        clear hS hT hLb
        go_wp2_with fail
        refine bodyPost_ret (v := .agg #[.slice x nn cc, .slice (some ⟨w3.heap.size, 0, none⟩) 16001 16001]) (by simp [results, Try.results75, go_sem, *]) rfl ?_
        exact HF.out _ (((Dr.Turned.refl _ _ V8).setCell (by simp) (by simp) _).setCell (by simp) (by simp) _)
      · have HF : Hid (∀ V', Dr.Turned w.heap.size (w.heap.size + 1) w3 V' → LbPost 18000 b w (.returned (.agg #[.slice x nn cc, .slice y m d])) V' ∧ ∃ j, j ≤ i + 4000 ∧ Dr.SrcAt V' b a n c zs j) := fun V' T => bent_fin hbl hT hS (by omega) hO.lt (Ld.lb ⟨⟨mid, hLw⟩, hxb, hyb, by omega⟩) T
        obtain ⟨L0, L1, _, _⟩ := hL
        obtain ⟨O0, O1, F0, F1⟩ := hO
        clear hS hT hLw
        go_wp2_with fail
        refine bodyPost_ret (v := .agg #[.slice x nn cc, .slice y m d]) (by simp [results, Try.results75, go_sem, *]) rfl ?_
        exact HF.out _ (((Dr.Turned.refl _ _ w3).setCell (by simp) (by simp) _).setCell (by simp) (by simp) _)

end Go.Proofs.Ytcjkjenebnodbaa
