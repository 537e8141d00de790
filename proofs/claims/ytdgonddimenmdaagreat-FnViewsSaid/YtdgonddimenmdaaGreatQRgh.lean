/-
  The contract of the model's l2Right: a page without a fault, whatever is drawn.
-/
import Derived.Test.YtdgonddimenmdaaGreatQIcp

namespace Go.Proofs.YtdgonddimenmdaaGreat
set_option maxRecDepth 20000
open Go.RowKit
set_option linter.unusedVariables false

theorem wf6 (q : Int) (h0 : 0 ≤ q) (h1 : q < 6) : (Lit.int .i64 q).wf = true := by
  obtain rfl | rfl | rfl | rfl | rfl | rfl : q = 0 ∨ q = 1 ∨ q = 2 ∨ q = 3 ∨ q = 4 ∨ q = 5 := by omega
  all_goals rfl

/-- What a round of l2Right keeps. -/
structure RgS (w : World) (b : Nat) (a : Option Addr) (n c : Nat) (zs : List Int) (lim : Int) (wr : World) (v : Value) : Prop where
  pg : PgAt w.heap.size wr v
  tn : Turned b (b + 1) w wr
  src : ∃ j, j ≤ lim ∧ SrcAt wr b a n c zs j

theorem RgS.more {w : World} {b : Nat} {a : Option Addr} {n c : Nat} {zs : List Int} {lim lim' : Int} {wr : World} {v : Value} (h : RgS w b a n c zs lim wr v) (hl : lim ≤ lim') : RgS w b a n c zs lim' wr v :=
  ⟨h.pg, h.tn, by obtain ⟨j, hj, hS⟩ := h.src; exact ⟨j, by omega, hS⟩⟩

set_option maxHeartbeats 8000000 in
theorem l2Right_any (b : Nat) (a : Option Addr) (n c : Nat) (zs : List Int) (i : Int) (w : World) (h : SrcAt w b a n c zs i) (i9 : i ≤ 600) :
    Calls Tryz.prog 60 #[.pointer (some ⟨b, 0, none⟩)] w fun e w' => ∃ v, e = .returned v ∧ RgS w b a n c zs (i + 300) w' v := by
  have hbl := h.lt
  go_enter Tryz.func60, Tryz.ntmps60
  go_wp2_with fail
  refine (l1Pick_any b w.heap.size 3 a n c zs [0, 0, 7] i _ (h.below (by go_grown)) (by omega) ?_ rfl (by omega) (by omega) hbl).mono ?_
  · intro k hk
    match k, hk with
    | 0, _ => simp [go_sem]
    | 1, _ => simp [go_sem]
    | 2, _ => simp [go_sem]
  rintro e w1 ⟨⟨j, hj, rfl⟩, ht, hS⟩
  have hf : 0 ≤ ([0, 0, 7] : List Int).getD j 0 ∧ ([0, 0, 7] : List Int).getD j 0 ≤ 255 := by
    match j, hj with
    | 0, _ => simp
    | 1, _ => simp
    | 2, _ => simp
  generalize ([0, 0, 7] : List Int).getD j 0 = f at hf
  obtain ⟨f0, f1⟩ := hf
  have hT : Turned b (b + 1) w w1 := (Turned.ofBelow (by go_grown)).trans ht
  clear ht hj
  go_wp2_with fail
  refine (l2New_any f _).mono ?_
  rintro e w2 ⟨rfl, gB, hN⟩
  have hP : PgAt w.heap.size w2 (.slice (some ⟨w1.heap.size, 0, none⟩) 64 64) := ⟨_, _, _, rfl, Nat.le_refl _, hT.size, hN.mono hT.size (Nat.le_refl _), fine_new f f0 f1⟩
  have hS := hS.below gB
  have hT := hT.trans (Turned.ofBelow gB)
  clear gB hN
  go_wp2_with fail
  refine (l1Next_any b a n c zs _ 14 _ hS (by omega) (by omega) (by omega)).mono ?_
  rintro e w3 ⟨⟨r, rfl, r0, r1⟩, ht, hS⟩
  obtain ⟨m, rfl⟩ : ∃ m : Nat, r = m := ⟨r.toNat, by omega⟩
  have hR0 : RgS w b a n c zs (i + 2) w3 (.slice (some ⟨w1.heap.size, 0, none⟩) 64 64) := ⟨hP.turned ht (by omega), hT.trans ht, ⟨_, by omega, hS⟩⟩
  clear ht hS hT hP
  go_wp2_with fail
  go_loopw [4, 3] (fun kk vv wr => ∃ k : Nat, k ≤ m ∧ kk = .int .i64 k ∧ RgS w b a n c zs (i + 2 + 20 * ((m : Int) - k)) wr vv) (fun kk _ _ => (intOf kk).toNat)
  case atStart => exact ⟨m, Nat.le_refl _, rfl, hR0.more (by omega)⟩
  case round =>
    obtain ⟨k, hk, rfl, hR⟩ := hrel
    clear hR0
    cases k with
    | zero =>
      go_wp2_with fail
      go_ret
      exact ⟨_, rfl, hR.more (by omega)⟩
    | succ k =>
      obtain ⟨⟨g, dd, ys, rfl, hdd, hg, hY, hF⟩, hT, ⟨j, hj, hS⟩⟩ := hR
      have hk0 : (0 : Int) < ((k + 1 : Nat) : Int) := by omega
      go_wp2_with fail
      refine (l1Next_any b a n c zs j 14 _ hS (by omega) (by omega) (by omega)).mono ?_
      rintro e x1 ⟨⟨r, rfl, r0, r1⟩, ht, hS⟩
      obtain ⟨r, rfl⟩ : ∃ q : Nat, r = q := ⟨r.toNat, by omega⟩
      have hY := (hY.turned ht (.inr (by omega))).mono (Nat.le_refl _) ht.size
      have hT := hT.trans ht
      have hszT := hT.size
      clear ht
      go_wp2_with fail
      rw [show (1 : Int) + (r : Int) = ((1 + r : Nat) : Int) by omega]
      refine (l1Some_any b a n c zs (j + 1) (1 + r) _ hS (by omega) (by omega)).mono ?_
      rintro e x2 ⟨vc, rfl, hG, ht, hS⟩
      obtain ⟨xb, xc, cs, rfl, hcl, hcb, hcs⟩ := hG.form (by omega)
      have hx1 := hT.size
      clear hG
      have hY := (hY.turned ht (.inr (by omega))).mono (Nat.le_refl _) ht.size
      have hT := hT.trans ht
      have hszT := hT.size
      clear ht
      go_wp2_with fail
      refine (l1Next_any b a n c zs _ 5 _ hS (by omega) (by omega) (by omega)).mono ?_
      rintro e x3 ⟨⟨ch, rfl, h0, h5⟩, ht, hS⟩
      have hY := (hY.turned ht (.inr (by omega))).mono (Nat.le_refl _) ht.size
      have hcs := hcs.turned ht (.inr (by omega))
      have hT := hT.trans ht
      have hszT := hT.size
      clear ht
      have hcase : ch = 0 ∨ ch = 1 ∨ ch = 2 ∨ 3 ≤ ch := by omega
      rcases hcase with rfl | rfl | rfl | hch
      ·
        go_wp2_with fail
        refine (l1Next_any b a n c zs _ 6 _ hS (by omega) (by omega) (by omega)).mono ?_
        rintro e x4 ⟨⟨q, rfl, q0, q6⟩, ht, hS⟩
        have hY := (hY.turned ht (.inr (by omega))).mono (Nat.le_refl _) ht.size
        have hcs := hcs.turned ht (.inr (by omega))
        have hT := hT.trans ht
        have hszT := hT.size
        clear ht
        go_wp2_with fail
        refine (l2Has_any (some ⟨g, 0, none⟩) ys dd q _ hY.reads hF (wf6 q q0 q6)).mono ?_
        rintro e w' ⟨rfl, hw'⟩
        subst w'
        cases hh : hasC ys q
        ·
          go_wp2_with fail
          go_roundw
          case rel => exact ⟨k, by omega, by go_num, ⟨⟨g, dd, ys, rfl, hdd, hg, hY, hF⟩, hT, ⟨_, by omega, hS⟩⟩⟩
          case measure => simp [intOf]
        · obtain ⟨s, rfl, hs, he⟩ := hasC_slot hh
          go_wp2_with fail
          refine (l2Drop_any (some ⟨g, 0, none⟩) ys dd s _ hY.reads hF hs).mono ?_
          rintro e x5 ⟨gB, g', dd', ys', rfl, hdd', hg', hA', hF'⟩
          have hP := PgAt.of (base := w.heap.size) hdd' (by omega) hA' hF'
          have hT := hT.trans (Turned.ofBelow gB)
          have hS := hS.below gB
          clear gB hY hcs
          go_wp2_with fail
          go_roundw
          case rel => exact ⟨k, by omega, by go_num, ⟨hP, hT, ⟨_, by omega, hS⟩⟩⟩
          case measure => simp [intOf]
      ·
        go_wp2_with fail
        refine (l1Next_any b a n c zs _ 6 _ hS (by omega) (by omega) (by omega)).mono ?_
        rintro e x4 ⟨⟨q, rfl, q0, q6⟩, ht, hS⟩
        have hY := (hY.turned ht (.inr (by omega))).mono (Nat.le_refl _) ht.size
        have hcs := hcs.turned ht (.inr (by omega))
        have hT := hT.trans ht
        have hszT := hT.size
        clear ht
        go_wp2_with fail
        refine (l2Has_any (some ⟨g, 0, none⟩) ys dd q _ hY.reads hF (wf6 q q0 q6)).mono ?_
        rintro e w' ⟨rfl, hw'⟩
        subst w'
        cases hh : hasC ys q
        ·
          go_wp2_with fail
          go_roundw
          case rel => exact ⟨k, by omega, by go_num, ⟨⟨g, dd, ys, rfl, hdd, hg, hY, hF⟩, hT, ⟨_, by omega, hS⟩⟩⟩
          case measure => simp [intOf]
        · obtain ⟨s, rfl, hs, he⟩ := hasC_slot hh
          go_wp2_with fail
          refine (l2Set_any (some ⟨g, 0, none⟩) ys cs dd s xb 0 (1 + r) xc _ hY.reads hF hs he hcl (by omega) (by omega) hcb hcs.reads).mono ?_
          rintro e x5 ⟨gB, ⟨q', hq', rfl⟩ | ⟨g', dd', ys', rfl, hdd', hg', hA', hF'⟩⟩
          · have hT := hT.trans (Turned.ofBelow gB)
            have hS := hS.below gB
            have hY := (hY.turned (lo := 0) (hi := 0) (Turned.ofBelow gB) (.inr (Nat.zero_le _))).mono (Nat.le_refl _) gB.size
            have dq : (q' == 0) = false := by simpa using hq'
            clear gB hcs
            go_wp2_with fail
            go_roundw
            case rel => exact ⟨k, by omega, by go_num, ⟨⟨g, dd, ys, rfl, hdd, hg, hY, hF⟩, hT, ⟨_, by omega, hS⟩⟩⟩
            case measure => simp [intOf]
          · have hP := PgAt.of (base := w.heap.size) hdd' (by omega) hA' hF'
            have hT := hT.trans (Turned.ofBelow gB)
            have hS := hS.below gB
            clear gB hY hcs
            go_wp2_with fail
            go_roundw
            case rel => exact ⟨k, by omega, by go_num, ⟨hP, hT, ⟨_, by omega, hS⟩⟩⟩
            case measure => simp [intOf]
      ·
        go_wp2_with fail
        refine (l1Chance_any b a n c zs _ 3 _ hS (by omega) (by omega) (by omega)).mono ?_
        rintro e x4 ⟨⟨q, rfl⟩, ht, hS⟩
        have hY := (hY.turned ht (.inr (by omega))).mono (Nat.le_refl _) ht.size
        have hcs := hcs.turned ht (.inr (by omega))
        have hT := hT.trans ht
        have hszT := hT.size
        clear ht
        cases q
        ·
          go_wp2_with fail
          go_roundw
          case rel => exact ⟨k, by omega, by go_num, ⟨⟨g, dd, ys, rfl, hdd, hg, hY, hF⟩, hT, ⟨_, by omega, hS⟩⟩⟩
          case measure => simp [intOf]
        ·
          go_wp2_with fail
          refine (l2Compact_any (some ⟨g, 0, none⟩) ys dd _ hY.reads hF hdd).mono ?_
          rintro e x5 ⟨g', rfl, gB, hg', hA'⟩
          have hP := PgAt.of (base := w.heap.size) (Nat.le_refl 64) (by omega) hA' (fine_compact hF)
          have hT := hT.trans (Turned.ofBelow gB)
          have hS := hS.below gB
          clear gB hY hcs
          go_wp2_with fail
          go_roundw
          case rel => exact ⟨k, by omega, by go_num, ⟨hP, hT, ⟨_, by omega, hS⟩⟩⟩
          case measure => simp [intOf]
      · have d0 : (ch == 0) = false := by simp; omega
        have d1 : (ch == 1) = false := by simp; omega
        have d2 : (ch == 2) = false := by simp; omega
        go_wp2_with fail
        refine (l2Put_or (some ⟨g, 0, none⟩) ys cs dd xb 0 (1 + r) xc _ hY.reads hF hcl (by omega) (by omega) hcb hcs.reads).mono ?_
        rintro e x5 ⟨gB, ⟨q', hq', rfl⟩ | ⟨g', dd', ys', s', rfl, hdd', hg', hA', hF'⟩⟩
        · have hT := hT.trans (Turned.ofBelow gB)
          have hS := hS.below gB
          have hY := (hY.turned (lo := 0) (hi := 0) (Turned.ofBelow gB) (.inr (Nat.zero_le _))).mono (Nat.le_refl _) gB.size
          have dq : (q' == 0) = false := by simpa using hq'
          clear gB hcs
          go_wp2_with fail
          go_roundw
          case rel => exact ⟨k, by omega, by go_num, ⟨⟨g, dd, ys, rfl, hdd, hg, hY, hF⟩, hT, ⟨_, by omega, hS⟩⟩⟩
          case measure => simp [intOf]
        · have hP := PgAt.of (base := w.heap.size) hdd' (by omega) hA' hF'
          have hT := hT.trans (Turned.ofBelow gB)
          have hS := hS.below gB
          clear gB hY hcs
          go_wp2_with fail
          go_roundw
          case rel => exact ⟨k, by omega, by go_num, ⟨hP, hT, ⟨_, by omega, hS⟩⟩⟩
          case measure => simp [intOf]

end Go.Proofs.YtdgonddimenmdaaGreat

/-
  The contract of the model's l2Bent: some bytes, a page or nearly one, whatever is drawn.
-/
namespace Go.Proofs.YtdgonddimenmdaaGreat
set_option maxRecDepth 20000
open Go.RowKit
set_option linter.unusedVariables false

/-- Bytes in a new row: 63 or 64 of them. -/
def BtAt (base : Nat) (w : World) (v : Value) : Prop := ∃ g o m d ys, v = .slice (some ⟨g, o, none⟩) m d ∧ List.length ys = m ∧ 1 ≤ m ∧ m ≤ 64 ∧ m ≤ d ∧ BytesIn base w.heap.size w (some ⟨g, o, none⟩) ys ∧ ∀ z ∈ ys, 0 ≤ z ∧ z ≤ 255

theorem bytesIn_tail {lo hi g : Nat} {w : World} {zs : List Int} (h : BytesIn lo hi w (some ⟨g, 0, none⟩) zs) : BytesIn lo hi w (some ⟨g, 1, none⟩) (zs.drop 1) := by
  rcases h with h | ⟨b, off, ha, h1, h2, hc, hf⟩
  · exact .inl (by rw [h]; rfl)
  · simp only [Option.some.injEq, Addr.mk.injEq, and_true] at ha
    obtain ⟨rfl, rfl⟩ := ha
    refine .inr ⟨g, 1, rfl, h1, h2, fun i hi => ?_, fun i hi => ?_⟩
    · have hl : 1 + i < zs.length := by rw [List.length_drop] at hi; omega
      have := hc (1 + i) hl
      rw [Nat.zero_add] at this
      rw [this]
      simp [List.getD, Nat.add_comm]
    · have hl : 1 + i < zs.length := by rw [List.length_drop] at hi; omega
      have := hf (1 + i) hl
      rw [Nat.zero_add] at this
      exact this

theorem bytesIn_store {lo hi g : Nat} {w : World} {zs : List Int} (h : BytesIn lo hi w (some ⟨g, 0, none⟩) zs) (j : Nat) (hj : j < zs.length) (y : Int) : BytesIn lo hi (w.setCell ⟨g, j, none⟩ (.int .u8 y)) (some ⟨g, 0, none⟩) (zs.set j y) := by
  rcases h with h | ⟨b, off, ha, h1, h2, hc, hf⟩
  · rw [h] at hj; simp at hj
  · cases ha
    refine .inr ⟨g, 0, rfl, h1, h2, fun i hi => ?_, fun i hi => ?_⟩
    · simp only [List.length_set] at hi
      have hci := hc i hi
      rw [Nat.zero_add] at hci ⊢
      by_cases e : i = j
      · subst e
        rw [World.cell?_setCell_same _ _ _ hci]
        simp [List.getD, hi]
      · rw [World.cell?_setCell_other _ _ _ _ (fun h => e (by have := congrArg Addr.off h; simp at this; omega)), hci]
        simp [List.getD, Ne.symm e]
    · simp only [List.length_set] at hi
      rw [World.frozen?_setCell]
      exact hf i hi

theorem bytesIn_at {lo hi g : Nat} {w : World} {zs : List Int} (h : BytesIn lo hi w (some ⟨g, 0, none⟩) zs) (j : Nat) (hj : j < zs.length) : w.cell? ⟨g, j, none⟩ = some (.int .u8 (zs.getD j 0)) ∧ w.frozen? ⟨g, j, none⟩ = false ∧ lo ≤ g := by
  rcases h with h | ⟨b, off, ha, h1, _, hc, hf⟩
  · rw [h] at hj; simp at hj
  · cases ha
    have e1 := hc j hj
    have e2 := hf j hj
    rw [Nat.zero_add] at e1 e2
    exact ⟨e1, e2, h1⟩

set_option maxHeartbeats 4000000 in
theorem l2Bent_any (b : Nat) (a : Option Addr) (n c : Nat) (zs : List Int) (i : Int) (w : World) (h : SrcAt w b a n c zs i) (i9 : i ≤ 600) :
    Calls Tryz.prog 33 #[.pointer (some ⟨b, 0, none⟩)] w fun e w' => ∃ v, e = .returned v ∧ BtAt w.heap.size w' v ∧ Turned b (b + 1) w w' ∧ ∃ j, j ≤ i + 310 ∧ SrcAt w' b a n c zs j := by
  have hbl := h.lt
  go_enter Tryz.func33, Tryz.ntmps33
  go_wp2_with fail
  refine (l2Right_any b a n c zs i w h i9).mono ?_
  rintro e w1 ⟨v, rfl, ⟨⟨g, dd, ys, rfl, hdd, hg, hY, hF⟩, hT, ⟨j, hj, hS⟩⟩⟩
  have hyl := hF.pg.len
  have hyb := hF.pg.bd
  clear hF
  go_wp2_with fail
  refine (l1Next_any b a n c zs j 12 _ hS (by omega) (by omega) (by omega)).mono ?_
  rintro e w2 ⟨⟨r, rfl, r0, r1⟩, ht, hS⟩
  have hY := (hY.turned ht (.inr (by omega))).mono (Nat.le_refl _) ht.size
  have hT := hT.trans ht
  clear ht
  have hcase : r = 0 ∨ r = 1 ∨ 2 ≤ r := by omega
  rcases hcase with rfl | rfl | hr
  · have hd1 : ¬ (dd = 1) := by omega
    have hd2 : (1 : Int) ≤ (dd : Int) := by omega
    have HY : Hid (BytesIn w.heap.size w2.heap.size w2 (some ⟨g, 1, none⟩) (ys.drop 1)) := bytesIn_tail hY
    clear hY
    go_wp2_with fail
    go_ret
    exact ⟨_, rfl, ⟨g, 1, 63, dd - 1, ys.drop 1, rfl, by rw [List.length_drop, hyl], by omega, by omega, by omega, HY.out, fun z hz => hyb z (List.mem_of_mem_drop hz)⟩, hT, ⟨_, by omega, hS⟩⟩
  · go_wp2_with fail
    refine (l1Next_any b a n c zs _ 12 _ hS (by omega) (by omega) (by omega)).mono ?_
    rintro e w3 ⟨⟨p, rfl, p0, p1⟩, ht, hS⟩
    have hY := (hY.turned ht (.inr (by omega))).mono (Nat.le_refl _) ht.size
    have hT := hT.trans ht
    clear ht
    go_wp2_with fail
    refine (l1Next_any b a n c zs _ 70 _ hS (by omega) (by omega) (by omega)).mono ?_
    rintro e w4 ⟨⟨y, rfl, y0, y1⟩, ht, hS⟩
    have hY := (hY.turned ht (.inr (by omega))).mono (Nat.le_refl _) ht.size
    have hT := hT.trans ht
    clear ht
    have hp : p.toNat < ys.length := by omega
    obtain ⟨e1, e2, e3⟩ := bytesIn_at hY p.toNat hp
    have HY : Hid (BytesIn w.heap.size w4.heap.size (w4.setCell ⟨g, p.toNat, none⟩ (.int .u8 y)) (some ⟨g, 0, none⟩) (ys.set p.toNat y)) := bytesIn_store hY p.toNat hp y
    generalize ys.getD p.toNat 0 = q at e1
    have HS : Hid (SrcAt (w4.setCell ⟨g, p.toNat, none⟩ (.int .u8 y)) b a n c zs (j + 1 + 1 + 1)) := hS.setFar (by simp only; omega) _
    have HT : Hid (Turned b (b + 1) w (w4.setCell ⟨g, p.toNat, none⟩ (.int .u8 y))) := hT.setNew (by simp only; omega) _
    clear hY hS hT
    go_wp2_with fail
    go_ret
    refine ⟨_, rfl, ⟨g, 0, 64, dd, ys.set p.toNat y, rfl, by rw [List.length_set, hyl], by omega, by omega, hdd, HY.out.mono (Nat.le_refl _) (by simp [World.setCell]), fun z hz => ?_⟩, HT.out, ⟨_, by omega, HS.out⟩⟩
    rcases List.mem_or_eq_of_mem_set hz with h1 | h1
    · exact hyb z h1
    · omega
  · have d0 : (r == 0) = false := by simp; omega
    have d1 : (r == 1) = false := by simp; omega
    go_wp2_with fail
    go_ret
    exact ⟨_, rfl, ⟨g, 0, 64, dd, ys, rfl, hyl, by omega, by omega, hdd, hY, hyb⟩, hT, ⟨_, by omega, hS⟩⟩

end Go.Proofs.YtdgonddimenmdaaGreat
