/-
  The model's l5Read: the records that stand one behind the other.
-/
import Derived.Test.YtcjkjenebnodbaaRcs
import Derived.Test.YtcjkjenebnodbaaNxt
namespace Go.Proofs.Ytcjkjenebnodbaa
open Go.RowKit
set_option linter.unusedVariables false

/-- The i-th record of zs. -/
def lgR (zs : List Int) (i : Nat) : Rc := ⟨kR (from' zs i) 1, kR (from' zs i) 2, kR (from' zs i) 3, nR (from' zs i), rP (from' zs i), rZ (from' zs i)⟩

theorem info36' : (Try.prog.info? 36).map (fun i => (i.zero, i.size, i.bytes)) = some (some (.agg #[.int .i64 0, .int .i64 0, .int .i64 0, .slice none 0 0]), 4, 48) := by kernel_rfl
theorem info36 : ∃ i, Try.prog.info? 36 = some i ∧ i.zero = some (.agg #[.int .i64 0, .int .i64 0, .int .i64 0, .slice none 0 0]) ∧ i.size = 4 ∧ i.bytes = 48 := by
  have h := info36'
  cases hi : Try.prog.info? 36 with
  | none => rw [hi] at h; simp at h
  | some i => rw [hi] at h; simp at h; exact ⟨i, rfl, h.1, h.2.1, h.2.2⟩

theorem Rlt.lit (n₀ : Nat) (W : World) (R : Nat → Rc) (D : Nat → Ad) (h : n₀ ≤ W.heap.size) : Rlt n₀ (W.alloc (.cells #[] 36)) (.slice (some ⟨W.heap.size, 0, none⟩) 0 0) 0 R D :=
  ⟨World.ownsRow_lit (base := n₀) (e := 36) (size := 4) W #[] 0 h (by unfold maxLen; omega) rfl, fun i hi => absurd hi (Nat.not_lt_zero _), fun i hi => absurd hi (Nat.not_lt_zero _), fun i j _ hi => absurd hi (Nat.not_lt_zero _)⟩

/-- What l5Read hands back. -/
def L5Post (w : World) (zs : List Int) (e : Ending) (w' : World) : Prop := ∃ v D, e = .returned (.tuple #[v, .int .i64 (logU zs)]) ∧ Below w.heap.size w w' ∧ Rlt w.heap.size w' v (lgN zs) (lgR zs) D

set_option maxHeartbeats 2000000 in
theorem l5Read_any (zs : List Int) (a : Option Addr) (cap : Nat) (w : World) (hm : zs.length ≤ 1048576) (hcap : zs.length ≤ cap) (hcm : cap ≤ 9223372036854775807) (hf : Reads w a zs) (hz : ∀ z ∈ zs, 0 ≤ z ∧ z ≤ 255) :
    Calls Try.prog 89 #[.slice a zs.length cap] w fun e w' => L5Post w zs e w' := by
  obtain ⟨i6, hi6, hz60, hz61, hz62⟩ := info36
  have HZ : Hid (∀ z ∈ zs, 0 ≤ z ∧ z ≤ 255) := hz
  have HF : Hid (Reads w a zs) := hf
  clear hz hf
  have hR0 := Rlt.lit w.heap.size w (lgR zs) (fun _ => ⟨none, 0, fun _ => none, fun _ => 0, fun _ => 0, 0, 0⟩) (Nat.le_refl _)
  go_enter Try.func89, Try.ntmps89
  go_upto_region 3 with (fail)
  have g0 : Below w.heap.size w (w.alloc (.cells #[] 36)) := by go_grown
  generalize w.alloc (.cells #[] 36) = Y0 at hR0 g0 ⊢
  go_loopw [4, 5] (fun v i wr => ∃ (j : Nat) (D : Nat → Ad), j ≤ lgN zs ∧ i = .int .i64 (lp zs j) ∧ Rlt w.heap.size wr v j (lgR zs) D ∧ Below w.heap.size w wr) (fun _ i _ => zs.length - (intOf i).toNat)
  case atStart => exact ⟨0, _, Nat.zero_le _, rfl, hR0, g0⟩
  case round =>
    obtain ⟨j, D, hj, rfl, hR, g⟩ := hrel
    clear hR0 g0
    have hpl := (lp_le zs j hj).2
    have hfl := from_len zs j
    by_cases h0 : lp zs j = zs.length
    · have HE : Hid (j = lgN zs ∧ logU zs = zs.length) := lg_full hj h0
      rw [h0]
      clear hfl h0 hpl
      go_wp2_with fail
      go_ret2
      exact ⟨_, D, by rw [HE.out.2]; rfl, g, by rw [← HE.out.1]; exact hR⟩
    · have hlt : lp zs j < zs.length := by omega
      obtain ⟨b, off, ha, hc⟩ : ∃ b off, a = some ⟨b, off, none⟩ ∧ ∀ i, i < zs.length → w.cell? ⟨b, off + i, none⟩ = some (.int .u8 (zs.getD i 0)) := by
        rcases HF.out with h | ⟨b, off, h, hc⟩
        · rw [h] at hlt; simp at hlt
        · exact ⟨b, off, h, hc⟩
      subst ha
      have hRd : Reads wr (some ⟨b, off + lp zs j, none⟩) (from' zs j) := Reads.below (w := w) (.inr ⟨b, off + lp zs j, rfl, fun i hi => by
        have h1 := hc (lp zs j + i) (by omega)
        rw [← Nat.add_assoc] at h1
        rw [h1]
        unfold from'
        simp only [List.getD, List.getElem?_drop]⟩) g (Nat.le_refl _)
      have HC : Hid (Calls Try.prog 41 #[.slice (some ⟨b, off + lp zs j, none⟩) (zs.length - lp zs j) (cap - lp zs j)] wr fun e w' => RRPost wr (from' zs j) e w') := by
        show Calls _ _ _ _ _
        rw [← hfl]
        exact specReadRecord_any (from' zs j) _ _ wr (by omega) (by omega) (by omega) hRd (from_bd HZ.out j)
      have HRk : Hid ((lgR zs j).k = kR (from' zs j) 1 ∧ (lgR zs j).t = kR (from' zs j) 2 ∧ (lgR zs j).g = kR (from' zs j) 3 ∧ (lgR zs j).n = nR (from' zs j) ∧ (lgR zs j).P = rP (from' zs j) ∧ (lgR zs j).Z = rZ (from' zs j)) := ⟨rfl, rfl, rfl, rfl, rfl, rfl⟩
      clear hc hRd
      have hl1 : ((lp zs j : Nat) : Int) < (zs.length : Int) := by omega
      have hne : ¬ cap = lp zs j := by omega
      have hlc : ((lp zs j : Nat) : Int) ≤ (zs.length : Int) := by omega
      by_cases hok : j < lgN zs
      · obtain ⟨hu1, hu7, hul⟩ := uR_from zs j hok
        have hq := (rr_yes (lg_ok zs j hok)).1
        have HPo : Hid (∀ e w', RRPost wr (from' zs j) e w' → ∃ a c A C F, e = .returned (.agg #[.int .i64 0, .int .i64 (uR (from' zs j)), .int .i64 (lgR zs j).k, .int .i64 (lgR zs j).t, .int .i64 (lgR zs j).g, .slice a (lgR zs j).n c]) ∧ Below wr.heap.size wr w' ∧ OwnS wr.heap.size w'.heap.size w' a (lgR zs j).n (lgR zs j).P A C (lgR zs j).Z F) := fun e w' h => by unfold RRPost at h; rw [hq] at h; exact h
        have HU : Hid (lp zs (j + 1) = lp zs j + uR (from' zs j)) := hu1
        clear hq hu1 HRk
        generalize uR (from' zs j) = u at HPo HU hu7 hul
        generalize hp0 : lp zs j = p0 at HC HU hl1 hne hlc hfl hpl hlt ⊢
        clear hp0
        go_wp2_with fail
        refine HC.out.mono ?_
        intro e w2 hp
        obtain ⟨a2, d2, A2, C2, F2, rfl, g2, y2⟩ := HPo.out _ _ hp
        clear hp HC HPo
        have hR2 := hR.below g2
        have hrs := World.ownsRow.lt hR.row
        have hfr : ∀ i, i < j → (D i).hi ≤ wr.heap.size := fun i hi => (hR.fr i hi).2.2.1
        have gA := g.trans (g2.mono g.size)
        have hs1 := g.size
        have hs2 := g2.size
        have HRS : Hid (∀ g', _ → g' < wr.heap.size) := fun g' e => (hrs g' e).2
        clear hR g2 g hrs
        go_upto_region 5 with (fail)
        generalize hY2 : World.alloc w2 _ = Y2
        have gY : Below w2.heap.size w2 Y2 := by rw [← hY2]; go_grown
        have r2 : R6 Y2 w2.heap.size 0 u (lgR zs j).k (lgR zs j).t (lgR zs j).g a2 (lgR zs j).n d2 := by rw [← hY2]; exact ⟨by simp [go_sem], by simp [go_sem], by simp [go_sem], by simp [go_sem], by simp [go_sem], by simp [go_sem]⟩
        have hR2 := hR2.below gY
        have hOn : RunsAt Y2 (lgR zs j) ⟨a2, d2, A2, C2, F2, wr.heap.size, w2.heap.size⟩ := OwnS.below y2 gY
        have gA := gA.trans (gY.mono gA.size)
        have hs3 := gY.size
        have hb2 : w2.heap.size < Y2.heap.size := World.block_lt_of_cell? Y2 _ r2.c0
        clear hY2 gY y2
        generalize w2.heap.size = b2 at r2 hOn hs2 hs3 hb2 ⊢
        obtain ⟨p1, p2, p3, p4, p5, p6⟩ := r2
        go_upto_region 6 with (fail)
        have gb : Below Y2.heap.size Y2 (Y2.alloc (.cells #[.int .i64 (lgR zs j).k, .int .i64 (lgR zs j).t, .int .i64 (lgR zs j).g, .slice a2 (lgR zs j).n d2] 36)) := by go_grown
        have hR8 := hR2.below gb
        have hO8 := hOn.below gb
        have gA8 := gA.trans (gb.mono gA.size)
        have p28 := (gb.cell (World.block_lt_of_cell? Y2 _ p2)).trans p2
        have hjs : j ≤ 1048576 := by have := lgN_le zs; omega
        go_wp2_with (at_builtin; refine wpList_append_own_at _ rfl _ _ 24 rfl w.heap.size 36 i6 (.agg #[.int .i64 0, .int .i64 0, .int .i64 0, .slice none 0 0]) 4 48 Try.underlying24 hi6 hz60 hz61 hz62 rfl (by decide) _ _ _ rfl hR8.row ⟨Y2.heap.size, 0, none⟩ 1 1 [.int .i64 (lgR zs j).k, .int .i64 (lgR zs j).t, .int .i64 (lgR zs j).g, .slice a2 (lgR zs j).n d2] rfl rfl ?n1 ?n2 ?n3 ?n4 ?n5 ?_)
        case n1 =>
          intro i u hu
          match i, hu with
          | 0, hu => simp at hu; subst hu; simp [go_sem, Addr.add]
          | 1, hu => simp at hu; subst hu; simp [go_sem, Addr.add]
          | 2, hu => simp at hu; subst hu; simp [go_sem, Addr.add]
          | 3, hu => simp at hu; subst hu; simp [go_sem, Addr.add]
        case n2 =>
          intro u hu
          simp at hu
          rcases hu with rfl | rfl | rfl | rfl <;> rfl
        case n3 => unfold maxLen; omega
        case n4 => omega
        case n5 => simp; omega
        intro v' w9 hown' hgrow _ hat
        have hR9 := hR8.add (v' := v') hO8 hfr (by simp only; omega) (by simp only; omega) (by simp; omega) HRS.out hown' hgrow (hat.imp id (fun h => h.trans (by simp)))
        have g9 : Below w.heap.size w w9 := Below.grown gA8 hgrow (by simp; omega) (fun q e => (World.ownsRow.lt hR8.row q e).1)
        have p29 := (World.cell?_of_block (a := ⟨b2, 1, none⟩) (hgrow.block b2 (by simp; omega) (fun e => by have := HRS.out b2 e.symm; omega))).trans p28
        clear hown' hgrow hat hR8 hO8 gA8 p28 gb hR2 hOn p1 p2 p3 p4 p5 p6 gA
        go_wp2_with fail
        go_roundw
        case rel => exact ⟨j + 1, _, by omega, by rw [HU.out]; go_num, hR9, g9⟩
        case measure => simp [intOf]; omega
      · have HE : Hid (j = lgN zs) := by show _ = _; omega
        have HPo : Hid (∀ e w', RRPost wr (from' zs j) e w' → ∃ a c, e = .returned (.agg #[.int .i64 5, .int .i64 0, .int .i64 0, .int .i64 0, .int .i64 0, .slice a 0 c]) ∧ Below wr.heap.size wr w') := fun e w' h => by
          obtain ⟨e0, e1, e2, e3, e4, e5⟩ := rr_no (zs := from' zs j) (by rw [HE.out]; exact lg_no zs)
          obtain ⟨a, c, A, C, F, h1, h2, h3⟩ := h
          rw [e0, e1, e2, e3, e4, e5] at h1
          exact ⟨a, c, h1, h2⟩
        have HU : Hid (logU zs = lp zs j) := by show _ = _; rw [HE.out]; rfl
        clear hok HRk
        generalize hp0 : lp zs j = p0 at HC HU hl1 hne hlc hfl hpl hlt ⊢
        clear hp0
        go_wp2_with fail
        refine HC.out.mono ?_
        intro e w2 hp
        obtain ⟨a2, d2, rfl, g2⟩ := HPo.out _ _ hp
        clear hp HC HPo
        have hR2 := hR.below g2
        have gA := g.trans (g2.mono g.size)
        clear hR g2 g
        go_upto_region 5 with (fail)
        generalize hY2 : World.alloc w2 _ = Y2
        have gY : Below w2.heap.size w2 Y2 := by rw [← hY2]; go_grown
        have r2 : R6 Y2 w2.heap.size 5 0 0 0 0 a2 0 d2 := by rw [← hY2]; exact ⟨by simp [go_sem], by simp [go_sem], by simp [go_sem], by simp [go_sem], by simp [go_sem], by simp [go_sem]⟩
        have hR2 := hR2.below gY
        have gA := gA.trans (gY.mono gA.size)
        clear hY2 gY
        generalize w2.heap.size = b2 at r2 ⊢
        obtain ⟨p1, p2, p3, p4, p5, p6⟩ := r2
        go_wp2_with fail
        go_ret2
        exact ⟨_, D, by rw [HU.out]; rfl, gA, by rw [← HE.out]; exact hR2⟩

end Go.Proofs.Ytcjkjenebnodbaa
