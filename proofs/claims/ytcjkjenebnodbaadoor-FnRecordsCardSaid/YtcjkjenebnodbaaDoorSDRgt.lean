/-
  The contract of the model's l2Right: a page without a fault, whatever is drawn.
-/
import Derived.Test.YtcjkjenebnodbaaDoorSDLpq
import Derived.Test.YtcjkjenebnodbaaDoorSDDrp
import Derived.Test.YtcjkjenebnodbaaDoorSDDraw
import Derived.Test.YtcjkjenebnodbaaDoorSDScp
import Derived.Lib.SmallJoins

namespace Go.Proofs.YtcjkjenebnodbaaDoor.Dr
open Go.RowKit
set_option linter.unusedVariables false

/-- A page without a fault in a new row. -/
def PgAt (base : Nat) (w : World) (v : Value) : Prop := ∃ g dd ys, v = .slice (some ⟨g, 0, none⟩) 64 dd ∧ 64 ≤ dd ∧ base ≤ g ∧ BytesIn base w.heap.size w (some ⟨g, 0, none⟩) ys ∧ Fine ys

theorem PgAt.turned {base lo hi : Nat} {w w' : World} {v : Value} (h : PgAt base w v) (ht : Turned lo hi w w') (hb : hi ≤ base) : PgAt base w' v := by
  obtain ⟨g, dd, ys, hv, h1, h2, h3, h4⟩ := h
  exact ⟨g, dd, ys, hv, h1, h2, (h3.turned ht (.inr hb)).mono (Nat.le_refl _) ht.size, h4⟩

theorem PgAt.of {base g dd : Nat} {w : World} {ys : List Int} (h1 : 64 ≤ dd) (h2 : base ≤ g) (hA : Sl64 w g ys) (hF : Fine ys) : PgAt base w (.slice (some ⟨g, 0, none⟩) 64 dd) := ⟨g, dd, ys, rfl, h1, h2, hA.bytes h2 hA.lt, hF⟩

theorem Gath.form {base k : Nat} {w : World} {v : Value} (h : Gath base w v k) (h1 : 1 ≤ k) : ∃ x cap ys, v = .slice (some ⟨x, 0, none⟩) k cap ∧ List.length ys = k ∧ (∀ z ∈ ys, 0 ≤ z ∧ z ≤ 255) ∧ BytesIn base w.heap.size w (some ⟨x, 0, none⟩) ys := by
  obtain ⟨ys, yl, yb, hown⟩ := h
  obtain ⟨x, cap, rfl⟩ := Joins.ownsRow_form hown (by omega)
  have hlt := hown.lt x rfl
  refine ⟨x, cap, ys, rfl, yl, yb, .inr ⟨x, 0, rfl, hlt.1, hlt.2, fun i hi => ?_, fun i hi => ?_⟩⟩
  · rw [Nat.zero_add, hown.cellAt i (by omega)]
    simp [List.getElem?_eq_getElem hi, List.getD]
  · rw [Nat.zero_add]; exact hown.frozenAt i

theorem fine_new (f : Int) (h0 : 0 ≤ f) (h1 : f ≤ 255) : Fine (newBytes f) := by
  have e0 : nb (newBytes f) 0 = 0 := rfl
  have e1 : nb (newBytes f) 1 = 64 := rfl
  refine Dirs.fine ⟨⟨by simp [newBytes], fun z hz => ?_⟩, by rw [e0]; omega, by rw [e0, e1]; omega, by rw [e1]; omega, fun j hj => absurd hj (by rw [e0]; omega), fun i k hk hi => absurd hi (by rw [e0]; omega), fun h0 => absurd h0 (by rw [e0]; omega)⟩
  simp only [newBytes, List.mem_cons, List.mem_replicate] at hz
  omega

end Go.Proofs.YtcjkjenebnodbaaDoor.Dr

/-
  The contract of the model's l2Right: a page without a fault, whatever is drawn.
-/
namespace Go.Proofs.YtcjkjenebnodbaaDoor.Dr
open Go.RowKit
set_option linter.unusedVariables false

theorem wf6 (q : Int) (h0 : 0 ≤ q) (h1 : q < 6) : (Lit.int .i64 q).wf = true := by
  obtain rfl | rfl | rfl | rfl | rfl | rfl : q = 0 ∨ q = 1 ∨ q = 2 ∨ q = 3 ∨ q = 4 ∨ q = 5 := by omega
  all_goals rfl

/-- What a round of l2Right keeps. -/
structure RgS (w : World) (b : Nat) (a : Option Addr) (n c : Nat) (zs : List Int) (lim : Int) (wr : World) (v : Value) : Prop where
  pg : PgAt w.heap.size wr v
  tn : Turned b (b + 1) w wr
  src : ∃ j, j ≤ lim ∧ SrcAt wr b a n c zs j

theorem RgS.more {w : World} {b : Nat} {a : Option Addr} {n c : Nat} {zs : List Int} {lim lim' : Int} {wr : World} {v : Value} (h : RgS w b a n c zs lim wr v) (hl : lim ≤ lim') : RgS w b a n c zs lim' wr v :=
  ⟨h.pg, h.tn, by obtain ⟨j, hj, hS⟩ := h.src; exact ⟨j, by omega, hS⟩⟩

set_option maxHeartbeats 8000000 in
theorem l2Right_any (b : Nat) (a : Option Addr) (n c : Nat) (zs : List Int) (i : Int) (w : World) (h : SrcAt w b a n c zs i) (i9 : i ≤ 99000) :
    Calls Tryd.prog 66 #[.pointer (some ⟨b, 0, none⟩)] w fun e w' => ∃ v, e = .returned v ∧ RgS w b a n c zs (i + 300) w' v := by
  have hbl := h.lt
  go_enter Tryd.func66, Tryd.ntmps66
  go_wp2_with fail
  refine (l1Pick_any b w.heap.size 3 a n c zs [0, 0, 7] i _ (h.below (by go_grown)) (by omega) ?_ rfl (by omega) (by omega) hbl).mono ?_
  · intro k hk
    match k, hk with
    | 0, _ => simp [go_sem]
    | 1, _ => simp [go_sem]
    | 2, _ => simp [go_sem]
  rintro e w1 ⟨⟨j, hj, rfl⟩, ht, hS⟩
  have hf : 0 ≤ ([0, 0, 7] : List Int).getD j 0 ∧ ([0, 0, 7] : List Int).getD j 0 ≤ 255 := by
    match j, hj with
    | 0, _ => simp
    | 1, _ => simp
    | 2, _ => simp
  generalize ([0, 0, 7] : List Int).getD j 0 = f at hf
  obtain ⟨f0, f1⟩ := hf
  have hT : Turned b (b + 1) w w1 := (Turned.ofBelow (by go_grown)).trans ht
  clear ht hj
  go_wp2_with fail
  refine (l2New_any f _).mono ?_
  rintro e w2 ⟨rfl, gB, hN⟩
  have hP : PgAt w.heap.size w2 (.slice (some ⟨w1.heap.size, 0, none⟩) 64 64) := ⟨_, _, _, rfl, Nat.le_refl _, hT.size, hN.mono hT.size (Nat.le_refl _), fine_new f f0 f1⟩
  have hS := hS.below gB
  have hT := hT.trans (Turned.ofBelow gB)
  clear gB hN
  go_wp2_with fail
  refine (l1Next_any b a n c zs _ 14 _ hS (by omega) (by omega) (by omega)).mono ?_
  rintro e w3 ⟨⟨r, rfl, r0, r1⟩, ht, hS⟩
  obtain ⟨m, rfl⟩ : ∃ m : Nat, r = m := ⟨r.toNat, by omega⟩
  have hR0 : RgS w b a n c zs (i + 2) w3 (.slice (some ⟨w1.heap.size, 0, none⟩) 64 64) := ⟨hP.turned ht (by omega), hT.trans ht, ⟨_, by omega, hS⟩⟩
  clear ht hS hT hP
  go_wp2_with fail
  go_loopw [4, 3] (fun kk vv wr => ∃ k : Nat, k ≤ m ∧ kk = .int .i64 k ∧ RgS w b a n c zs (i + 2 + 20 * ((m : Int) - k)) wr vv) (fun kk _ _ => (intOf kk).toNat)
  case atStart => exact ⟨m, Nat.le_refl _, rfl, hR0.more (by omega)⟩
  case round =>
    obtain ⟨k, hk, rfl, hR⟩ := hrel
    clear hR0
    cases k with
    | zero =>
      go_wp2_with fail
      go_ret
      exact ⟨_, rfl, hR.more (by omega)⟩
    | succ k =>
      obtain ⟨⟨g, dd, ys, rfl, hdd, hg, hY, hF⟩, hT, ⟨j, hj, hS⟩⟩ := hR
      have hk0 : (0 : Int) < ((k + 1 : Nat) : Int) := by omega
      go_wp2_with fail
      refine (l1Next_any b a n c zs j 14 _ hS (by omega) (by omega) (by omega)).mono ?_
      rintro e x1 ⟨⟨r, rfl, r0, r1⟩, ht, hS⟩
      obtain ⟨r, rfl⟩ : ∃ q : Nat, r = q := ⟨r.toNat, by omega⟩
      have hY := (hY.turned ht (.inr (by omega))).mono (Nat.le_refl _) ht.size
      have hT := hT.trans ht
      have hszT := hT.size
      clear ht
      go_wp2_with fail
      rw [show (1 : Int) + (r : Int) = ((1 + r : Nat) : Int) by omega]
      refine (l1Some_any b a n c zs (j + 1) (1 + r) _ hS (by omega) (by omega)).mono ?_
      rintro e x2 ⟨vc, rfl, hG, ht, hS⟩
      obtain ⟨xb, xc, cs, rfl, hcl, hcb, hcs⟩ := hG.form (by omega)
      have hx1 := hT.size
      clear hG
      have hY := (hY.turned ht (.inr (by omega))).mono (Nat.le_refl _) ht.size
      have hT := hT.trans ht
      have hszT := hT.size
      clear ht
      go_wp2_with fail
      refine (l1Next_any b a n c zs _ 5 _ hS (by omega) (by omega) (by omega)).mono ?_
      rintro e x3 ⟨⟨ch, rfl, h0, h5⟩, ht, hS⟩
      have hY := (hY.turned ht (.inr (by omega))).mono (Nat.le_refl _) ht.size
      have hcs := hcs.turned ht (.inr (by omega))
      have hT := hT.trans ht
      have hszT := hT.size
      clear ht
      have hcase : ch = 0 ∨ ch = 1 ∨ ch = 2 ∨ 3 ≤ ch := by omega
      rcases hcase with rfl | rfl | rfl | hch
      ·
        go_wp2_with fail
        refine (l1Next_any b a n c zs _ 6 _ hS (by omega) (by omega) (by omega)).mono ?_
        rintro e x4 ⟨⟨q, rfl, q0, q6⟩, ht, hS⟩
        have hY := (hY.turned ht (.inr (by omega))).mono (Nat.le_refl _) ht.size
        have hcs := hcs.turned ht (.inr (by omega))
        have hT := hT.trans ht
        have hszT := hT.size
        clear ht
        go_wp2_with fail
        refine (l2Has_any (some ⟨g, 0, none⟩) ys dd q _ hY.reads hF (wf6 q q0 q6)).mono ?_
        rintro e w' ⟨rfl, hw'⟩
        subst w'
        cases hh : hasC ys q
        ·
          go_wp2_with fail
          go_roundw
          case rel => exact ⟨k, by omega, by go_num, ⟨⟨g, dd, ys, rfl, hdd, hg, hY, hF⟩, hT, ⟨_, by omega, hS⟩⟩⟩
          case measure => simp [intOf]
        · obtain ⟨s, rfl, hs, he⟩ := hasC_slot hh
          go_wp2_with fail
          refine (l2Drop_any (some ⟨g, 0, none⟩) ys dd s _ hY.reads hF hs).mono ?_
          rintro e x5 ⟨gB, g', dd', ys', rfl, hdd', hg', hA', hF'⟩
          have hP := PgAt.of (base := w.heap.size) hdd' (by omega) hA' hF'
          have hT := hT.trans (Turned.ofBelow gB)
          have hS := hS.below gB
          clear gB hY hcs
          go_wp2_with fail
          go_roundw
          case rel => exact ⟨k, by omega, by go_num, ⟨hP, hT, ⟨_, by omega, hS⟩⟩⟩
          case measure => simp [intOf]
      ·
        go_wp2_with fail
        refine (l1Next_any b a n c zs _ 6 _ hS (by omega) (by omega) (by omega)).mono ?_
        rintro e x4 ⟨⟨q, rfl, q0, q6⟩, ht, hS⟩
        have hY := (hY.turned ht (.inr (by omega))).mono (Nat.le_refl _) ht.size
        have hcs := hcs.turned ht (.inr (by omega))
        have hT := hT.trans ht
        have hszT := hT.size
        clear ht
        go_wp2_with fail
        refine (l2Has_any (some ⟨g, 0, none⟩) ys dd q _ hY.reads hF (wf6 q q0 q6)).mono ?_
        rintro e w' ⟨rfl, hw'⟩
        subst w'
        cases hh : hasC ys q
        ·
          go_wp2_with fail
          go_roundw
          case rel => exact ⟨k, by omega, by go_num, ⟨⟨g, dd, ys, rfl, hdd, hg, hY, hF⟩, hT, ⟨_, by omega, hS⟩⟩⟩
          case measure => simp [intOf]
        · obtain ⟨s, rfl, hs, he⟩ := hasC_slot hh
          go_wp2_with fail
          refine (l2Set_any (some ⟨g, 0, none⟩) ys cs dd s xb 0 (1 + r) xc _ hY.reads hF hs he hcl (by omega) (by omega) hcb hcs.reads).mono ?_
          rintro e x5 ⟨gB, ⟨q', hq', rfl⟩ | ⟨g', dd', ys', rfl, hdd', hg', hA', hF'⟩⟩
          · have hT := hT.trans (Turned.ofBelow gB)
            have hS := hS.below gB
            have hY := (hY.turned (lo := 0) (hi := 0) (Turned.ofBelow gB) (.inr (Nat.zero_le _))).mono (Nat.le_refl _) gB.size
            have dq : (q' == 0) = false := by simpa using hq'
            clear gB hcs
            go_wp2_with fail
            go_roundw
            case rel => exact ⟨k, by omega, by go_num, ⟨⟨g, dd, ys, rfl, hdd, hg, hY, hF⟩, hT, ⟨_, by omega, hS⟩⟩⟩
            case measure => simp [intOf]
          · have hP := PgAt.of (base := w.heap.size) hdd' (by omega) hA' hF'
            have hT := hT.trans (Turned.ofBelow gB)
            have hS := hS.below gB
            clear gB hY hcs
            go_wp2_with fail
            go_roundw
            case rel => exact ⟨k, by omega, by go_num, ⟨hP, hT, ⟨_, by omega, hS⟩⟩⟩
            case measure => simp [intOf]
      ·
        go_wp2_with fail
        refine (l1Chance_any b a n c zs _ 3 _ hS (by omega) (by omega) (by omega)).mono ?_
        rintro e x4 ⟨⟨q, rfl⟩, ht, hS⟩
        have hY := (hY.turned ht (.inr (by omega))).mono (Nat.le_refl _) ht.size
        have hcs := hcs.turned ht (.inr (by omega))
        have hT := hT.trans ht
        have hszT := hT.size
        clear ht
        cases q
        ·
          go_wp2_with fail
          go_roundw
          case rel => exact ⟨k, by omega, by go_num, ⟨⟨g, dd, ys, rfl, hdd, hg, hY, hF⟩, hT, ⟨_, by omega, hS⟩⟩⟩
          case measure => simp [intOf]
        ·
          go_wp2_with fail
          refine (l2Compact_any (some ⟨g, 0, none⟩) ys dd _ hY.reads hF hdd).mono ?_
          rintro e x5 ⟨g', rfl, gB, hg', hA'⟩
          have hP := PgAt.of (base := w.heap.size) (Nat.le_refl 64) (by omega) hA' (fine_compact hF)
          have hT := hT.trans (Turned.ofBelow gB)
          have hS := hS.below gB
          clear gB hY hcs
          go_wp2_with fail
          go_roundw
          case rel => exact ⟨k, by omega, by go_num, ⟨hP, hT, ⟨_, by omega, hS⟩⟩⟩
          case measure => simp [intOf]
      · have d0 : (ch == 0) = false := by simp; omega
        have d1 : (ch == 1) = false := by simp; omega
        have d2 : (ch == 2) = false := by simp; omega
        go_wp2_with fail
        refine (l2Put_or (some ⟨g, 0, none⟩) ys cs dd xb 0 (1 + r) xc _ hY.reads hF hcl (by omega) (by omega) hcb hcs.reads).mono ?_
        rintro e x5 ⟨gB, ⟨q', hq', rfl⟩ | ⟨g', dd', ys', s', rfl, hdd', hg', hA', hF'⟩⟩
        · have hT := hT.trans (Turned.ofBelow gB)
          have hS := hS.below gB
          have hY := (hY.turned (lo := 0) (hi := 0) (Turned.ofBelow gB) (.inr (Nat.zero_le _))).mono (Nat.le_refl _) gB.size
          have dq : (q' == 0) = false := by simpa using hq'
          clear gB hcs
          go_wp2_with fail
          go_roundw
          case rel => exact ⟨k, by omega, by go_num, ⟨⟨g, dd, ys, rfl, hdd, hg, hY, hF⟩, hT, ⟨_, by omega, hS⟩⟩⟩
          case measure => simp [intOf]
        · have hP := PgAt.of (base := w.heap.size) hdd' (by omega) hA' hF'
          have hT := hT.trans (Turned.ofBelow gB)
          have hS := hS.below gB
          clear gB hY hcs
          go_wp2_with fail
          go_roundw
          case rel => exact ⟨k, by omega, by go_num, ⟨hP, hT, ⟨_, by omega, hS⟩⟩⟩
          case measure => simp [intOf]

end Go.Proofs.YtcjkjenebnodbaaDoor.Dr
