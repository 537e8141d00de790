/-
  The program's DropSlot, where there is a cell.
-/
import Derived.Test.YtlggefcaiojemaaQCla
import Derived.Test.YtlggefcaiojemaaQModF
import Derived.Test.YtlggefcaiojemaaQEdb

namespace Go.Proofs.Ytlggefcaiojemaa
open Go.RowKit
set_option linter.unusedVariables false

theorem isPg_set {zs : List Int} (h : IsPg zs) (i v : Nat) (hv : v ≤ 255) : IsPg (zs.set i (v : Int)) :=
  ⟨by rw [List.length_set]; exact h.len, fun z hz => by
    rcases List.mem_or_eq_of_mem_set hz with h1 | h1
    · exact h.bd z h1
    · rw [h1]; omega⟩
theorem isPg_span {zs : List Int} (h : IsPg zs) (s p l : Nat) (hp : p ≤ 255) (hl : l ≤ 255) : IsPg (spanSet zs s p l) := isPg_set (isPg_set h _ p hp) _ l hl
theorem nb_span_head {zs : List Int} (s p l : Nat) : nb (spanSet zs s p l) 0 = nb zs 0 := by
  unfold spanSet nb byt
  simp [List.getD]
theorem PRes.grown {b : Nat} {w w' : World} {q s : Int} {v : Value} (h : PRes w b q s v) (hb : Below w.heap.size w w') : PRes w' b q s v := h.below hb h.lt
theorem PRes.turned {lo hi b : Nat} {w w' : World} {q s : Int} {v : Value} (h : PRes w b q s v) (ht : Turned lo hi w w') (hn : b < lo ∨ hi ≤ b) : PRes w' b q s v :=
  ⟨ht.cell h.c0 (by simp only; omega), ht.cell h.c1 (by simp only; omega), ht.cell h.c2 (by simp only; omega), (ht.frozen h.c0 (by simp only; omega)).trans h.f0, (ht.frozen h.c1 (by simp only; omega)).trans h.f1, (ht.frozen h.c2 (by simp only; omega)).trans h.f2⟩
/-- A page whose slot s tells no cell any more. -/
def drpP (zs : List Int) (s : Nat) : List Int := dropEnd (spanSet zs s 0 0)
def DsPost (zs : List Int) (s : Nat) (w : World) (e : Ending) (w' : World) : Prop := ∃ g, e = .returned (.agg #[.int .i64 0, .int .i64 0, .slice (some ⟨g, 0, none⟩) 64 64]) ∧ Below w.heap.size w w' ∧ w.heap.size ≤ g ∧ Arr w' g (drpP zs s)

set_option maxRecDepth 20000 in
set_option maxHeartbeats 4000000 in
theorem dropSlot_ok (a : Option Addr) (zs : List Int) (c s : Nat) (w : World) (hr : Reads w a zs) (hc : 64 ≤ c) (hz : ∀ z ∈ zs, 0 ≤ z ∧ z ≤ 255) (hf : fltOf zs = 0) (hh : hasC zs s = true) (hs : s < 16) :
    Calls Try.prog 56 #[.slice a 64 c, .int .i64 s] w fun e w' => DsPost zs s w e w' := by
  have hF := fine_of hz hf
  have hX : PRes (w.alloc (.cells #[.int .i64 0, .int .i64 0, .slice none 0 0] 98)) w.heap.size 0 0 (.slice none 0 0) := ⟨by simp [go_sem], by simp [go_sem], by simp [go_sem], by simp [go_sem], by simp [go_sem], by simp [go_sem]⟩
  have g : Below w.heap.size w (w.alloc (.cells #[.int .i64 0, .int .i64 0, .slice none 0 0] 98)) := by go_grown
  have hr := hr.below g (Nat.le_refl _)
  obtain ⟨X, hX0⟩ : ∃ X, w.alloc (.cells #[.int .i64 0, .int .i64 0, .slice none 0 0] 98) = X := ⟨_, rfl⟩
  rw [hX0] at hX g hr
  have hcon := loadPage_all a zs 64 c X hF.pg.len (by omega) hc hr hz
  rw [hf, pg, if_pos hF.pg.len] at hcon
  go_enter Try.func56, Try.ntmps56
  go_wp2_with fail
  refine hcon.mono ?_
  rintro e w1 ⟨rfl, g1⟩
  have hX1 := hX.grown g1
  have g : Below w.heap.size w w1 := g.trans (g1.mono g.size)
  clear hX0 hX g1 hr hcon
  have hpl := hF.pg.len
  go_upto_region 2 with (refine wpList_storePg rfl _ _ rfl _ zs rfl rfl hpl (filled 0 0) (arr_new _ (filled 0 0) rfl) ?_)
  generalize hZ : World.setRow _ w1.heap.size (pgC zs) = Z
  have hA : Arr Z w1.heap.size zs := by rw [← hZ]; exact (arr_new w1 (filled 0 0) rfl).put hpl
  have gZ : Below w1.heap.size w1 Z := by rw [← hZ]; exact setRow_below ((Below.refl _ _).alloc (Nat.le_refl _) _) (Nat.le_refl _) _
  have hX2 := hX1.grown gZ
  have g : Below w.heap.size w Z := g.trans (gZ.mono g.size)
  have hlt := hX1.lt
  clear hZ gZ hX1
  generalize w1.heap.size = b at hA hlt
  have hcl := cellAt_any zs s Z hF.pg hF.few (by simp [Lit.wf, IntKind.min, IntKind.max, IntKind.bits, IntKind.signed]; omega)
  rw [hh] at hcl
  go_wp2_with (refine wpList_loadPg rfl _ rfl _ rfl zs (by assumption) ?_)
  refine hcl.mono ?_
  rintro e w2 ⟨⟨p, l, rfl, _⟩, g2⟩
  have hA2 := hA.grown g2
  have hX3 := hX2.grown g2
  have g : Below w.heap.size w w2 := g.trans (g2.mono g.size)
  clear hcl g2 hA hX2
  go_upto_region 5 with (fail)
  generalize hY : World.alloc w2 _ = Y
  have gY : Below w2.heap.size w2 Y := by rw [← hY]; go_grown
  have hA3 := hA2.grown gY
  have hX4 := hX3.grown gY
  have g : Below w.heap.size w Y := g.trans (gY.mono g.size)
  clear hY gY hA2 hX3
  generalize w2.heap.size = yb
  have hsp := setSpan_any b s 0 0 zs Y hA3 (by omega) (by omega) (by omega)
  go_wp2_with (go_at_call 78; refine hsp.mono ?_)
  rintro e w3 ⟨rfl, t3, hA4⟩
  have hX5 := hX4.turned t3 (.inl hlt)
  have g : Below w.heap.size w w3 := g.trans (t3.toBelow g.size (by omega))
  clear hsp t3 hA3 hX4
  have hde := dropEmptyEnd_any b (spanSet zs s 0 0) w3 hA4 (isPg_span hF.pg s 0 0 (by omega) (by omega)) (by rw [nb_span_head]; exact hF.few)
  go_wp2_with (go_at_call 79; refine hde.mono ?_)
  rintro e w4 ⟨rfl, t4, hA5⟩
  have hX6 := hX5.turned t4 (.inl hlt)
  have g : Below w.heap.size w w4 := g.trans (t4.toBelow g.size (by omega))
  clear hde t4 hA4 hX5
  have hb5 := hA5.lt
  have hx5 := hX6.lt
  have HA5 : Hid (Arr (((w4.setCell ⟨w.heap.size, 0, none⟩ (.int .i64 0)).setCell ⟨w.heap.size, 1, none⟩ (.int .i64 0)).setCell ⟨w.heap.size, 2, none⟩ (.slice (some ⟨b, 0, none⟩) 64 64)) b (drpP zs s)) := ((hA5.other _ _ (by simp; omega)).other _ _ (by simp; omega)).other _ _ (by simp; omega)
  clear hA5
  obtain ⟨c0, c1, c2, f0, f1, f2⟩ := hX6
  go_wp2_with fail
  refine bodyPost_ret (v := .agg #[.int .i64 0, .int .i64 0, .slice (some ⟨b, 0, none⟩) 64 64]) (by simp [results, Try.results56, go_sem, c0, c1, c2]) rfl ?_
  exact ⟨b, rfl, by go_grown, by omega, HA5.out⟩

end Go.Proofs.Ytlggefcaiojemaa

/-
  The model's l2Drop: just what DropSlot makes.
-/
namespace Go.Proofs.Ytlggefcaiojemaa
open Go.RowKit
set_option linter.unusedVariables false

section
variable {base : Nat} {w : World} {g dd : Nat} {xs : List Int}
theorem Gb.setB (h : Gb base w (.slice (some ⟨g, 0, none⟩) 64 dd) xs) (hl : xs.length = 64) (i : Nat) (v : Int) : Gb base (w.setCell ⟨g, i, none⟩ (.int .u8 v)) (.slice (some ⟨g, 0, none⟩) 64 dd) (xs.set i v) := by
  obtain ⟨t, ht, h⟩ := h
  refine ⟨t, ht, ?_⟩
  rw [List.length_set, hl, List.map_set]
  rw [hl] at h
  exact (h.stored i _).1
theorem Gb.atB (h : Gb base w (.slice (some ⟨g, 0, none⟩) 64 dd) xs) (hl : xs.length = 64) (i : Nat) (hi : i < 64) : w.cell? ⟨g, i, none⟩ = some (.int .u8 (byt xs i)) := by
  obtain ⟨t, ht, h⟩ := h
  rw [hl] at h
  rw [h.cellAt i (by omega)]
  simp [byt, List.getD, hl, hi]
theorem Gb.frB (h : Gb base w (.slice (some ⟨g, 0, none⟩) 64 dd) xs) (hl : xs.length = 64) (i : Nat) : w.frozen? ⟨g, i, none⟩ = false := by
  obtain ⟨t, ht, h⟩ := h
  rw [hl] at h
  exact h.frozenAt i
theorem Gb.rdB (h : Gb base w (.slice (some ⟨g, 0, none⟩) 64 dd) xs) : Reads w (some ⟨g, 0, none⟩) xs := by
  obtain ⟨a, c, f, e, hb, _⟩ := h.one
  injection e with e1 e2 e3
  rw [e1]
  exact hb.reads
end
/-- Where a slot tells no place, it tells no length, and so the other way. -/
def EvenP (zs : List Int) : Prop := ∀ t, t < nb zs 0 → (nb zs (2 + 2 * t) = 0 ↔ nb zs (3 + 2 * t) = 0)
theorem EvenP.endB {zs : List Int} (h : EvenP zs) (h0 : 0 < nb zs 0) : endB zs = (nb zs (3 + 2 * (nb zs 0 - 1)) == 0) := by
  have h1 := h (nb zs 0 - 1) (by omega)
  unfold Go.Proofs.Ytlggefcaiojemaa.endB empB
  rw [show decide (0 < nb zs 0) = true by simp; omega]
  by_cases h2 : nb zs (3 + 2 * (nb zs 0 - 1)) = 0
  · simp [h2, h1.2 h2]
  · simp [h2]
theorem nb_less_other {zs : List Int} (i : Nat) (hi : i ≠ 0) : nb (lessP zs) i = nb zs i := by unfold lessP nb byt; simp [List.getD, Ne.symm hi]
theorem EvenP.less {zs : List Int} (h : EvenP zs) (hp : IsPg zs) (h0 : 0 < nb zs 0) : EvenP (lessP zs) := fun t ht => by
  rw [nb_less hp h0] at ht
  rw [nb_less_other _ (by omega), nb_less_other _ (by omega)]
  exact h t (by omega)
theorem EvenP.span {zs : List Int} (h : EvenP zs) (hp : IsPg zs) (hc : nb zs 0 ≤ 16) (s : Nat) (hs : s < 16) : EvenP (spanSet zs s 0 0) := fun t ht => by
  rw [nb_span_head] at ht
  have hl := hp.len
  unfold spanSet nb byt
  by_cases e : t = s
  · subst e
    simp [List.getD, hl, show 2 + 2 * t < 64 by omega, show 3 + 2 * t < 64 by omega]
  · have := h t ht
    unfold nb byt at this
    simp only [List.getD] at this ⊢
    rw [List.getElem?_set_ne (by omega), List.getElem?_set_ne (by omega), List.getElem?_set_ne (by omega), List.getElem?_set_ne (by omega)]
    exact this
theorem evenP_fine {zs : List Int} (h : Fine zs) : EvenP zs := fun t ht => by
  have := h.ok t ht
  unfold wrgS wrongB at this
  simp at this
  omega
def MdPost (zs : List Int) (s : Nat) (w : World) (e : Ending) (w' : World) : Prop := ∃ g dd, e = .returned (.slice (some ⟨g, 0, none⟩) 64 dd) ∧ Below w.heap.size w w' ∧ Gb w.heap.size w' (.slice (some ⟨g, 0, none⟩) 64 dd) (drpP zs s)
def headW (w : World) (g : Nat) : Nat := (intOf ((w.cell? ⟨g, 0, none⟩).getD (.int .u8 0))).toNat

set_option maxRecDepth 20000 in
set_option maxHeartbeats 4000000 in
theorem l2Drop_all (a : Option Addr) (zs : List Int) (c s : Nat) (w : World) (hr : Reads w a zs) (h : Fine zs) (hs : s < 16) :
    Calls Try.prog 67 #[.slice a 64 c, .int .i64 s] w fun e w' => MdPost zs s w e w' := by
  have hcp := l2Copy_gen a zs 64 c w h.pg.len (by omega) hr
  go_enter Try.func67, Try.ntmps67
  go_wp2_with (go_at_call 38; refine hcp.mono ?_)
  rintro e w2 ⟨u, rfl, gB, hu⟩
  obtain ⟨g, dd, hg, hgw⟩ : ∃ g dd, u = .slice (some ⟨g, 0, none⟩) 64 dd ∧ w.heap.size ≤ g := by
    have hu' := hu
    obtain ⟨tt, _, h2'⟩ := hu'
    have h2 := h2'.2
    rw [h.pg.len] at h2
    rcases h2 with ⟨_, h0⟩ | ⟨g, cap, cu, e, h3⟩
    · omega
    · have h4 := (Gb.lt hu g (by rw [e]; rfl)).1
      exact ⟨g, _, e, h4⟩
  subst hg
  have c0 := hu.atB h.pg.len (2 + 2 * s) (by omega)
  have f0 := hu.frB h.pg.len (2 + 2 * s)
  clear hcp
  go_upto_region 3 with (fail)
  have hA1 := hu.setB h.pg.len (2 + 2 * s) 0
  have gB1 := gB.setCell (p := ⟨g, 2 + 2 * s, none⟩) hgw (.int .u8 0)
  have hl1 : (zs.set (2 + 2 * s) 0).length = 64 := by rw [List.length_set]; exact h.pg.len
  clear c0 f0 hu gB
  generalize w2.setCell ⟨g, 2 + 2 * s, none⟩ (.int .u8 0) = V1 at hA1 gB1 ⊢
  have c0 := hA1.atB hl1 (3 + 2 * s) (by omega)
  have f0 := hA1.frB hl1 (3 + 2 * s)
  go_wp2_with fail
  have hA2 : Gb w.heap.size (V1.setCell ⟨g, 3 + 2 * s, none⟩ (.int .u8 0)) (.slice (some ⟨g, 0, none⟩) 64 dd) (spanSet zs s 0 0) := hA1.setB hl1 (3 + 2 * s) 0
  have gB2 := gB1.setCell (p := ⟨g, 3 + 2 * s, none⟩) hgw (.int .u8 0)
  clear c0 f0 hA1 gB1 hl1
  generalize V1.setCell ⟨g, 3 + 2 * s, none⟩ (.int .u8 0) = V2 at hA2 gB2 ⊢
  have hp2 := isPg_span h.pg s 0 0 (by omega) (by omega)
  have hc2 : nb (spanSet zs s 0 0) 0 ≤ 16 := by rw [nb_span_head]; exact h.few
  have he2 := (evenP_fine h).span h.pg h.few s hs
  go_loopw [31] (fun _ wr => ∃ xs : List Int, Gb w.heap.size wr (.slice (some ⟨g, 0, none⟩) 64 dd) xs ∧ IsPg xs ∧ nb xs 0 ≤ 16 ∧ EvenP xs ∧ Below w.heap.size w wr ∧ Hid (drpP zs s = dropEnd xs)) (fun _ wr => headW wr g)
  case atStart => exact ⟨_, hA2, hp2, hc2, he2, gB2, rfl⟩
  case round =>
    clear hA2 hp2 hc2 he2 gB2
    obtain ⟨xs, hA, hp, hc, he, gW, HD⟩ := hrel
    have c0 := hA.atB hp.len 0 (by omega)
    rw [nb_byt hp] at c0
    have hRd := hA.rdB
    obtain ⟨m, hm⟩ : ∃ m, m = nb xs 0 := ⟨_, rfl⟩
    rw [← hm] at c0
    cases m with
    | zero =>
      have HF : Hid (drpP zs s = xs) := HD.out.trans (dropEnd_stop (by unfold endB; rw [← hm]; rfl))
      clear hm
      go_wp2_with fail
      go_ret
      exact ⟨g, dd, rfl, gW, by rw [HF.out]; exact hA⟩
    | succ j =>
      have hj1 : ((j + 1 : Nat) : Int) - 1 = (j : Int) := by omega
      have hj0 : (0 : Int) < ((j + 1 : Nat) : Int) := by omega
      have hE := he.endB (by omega)
      rw [← hm, Nat.add_sub_cancel] at hE
      have HM : Hid (nb xs 0 = j + 1) := hm.symm
      rw [← hm] at hc
      clear hm
      go_wp2_with fail
      refine (l2Size_any (some ⟨g, 0, none⟩) xs dd j wr hRd hp (by omega)).mono ?_
      rintro e w' ⟨rfl, hw'⟩
      subst w'
      clear hRd
      obtain ⟨y, hyy⟩ : ∃ y, y = nb xs (3 + 2 * j) := ⟨_, rfl⟩
      rw [← hyy] at hE ⊢
      clear hyy
      cases y with
      | zero =>
        have hE1 : endB xs = true := by rw [hE]; rfl
        have h0 := endB_pos hE1
        have f0 := hA.frB hp.len 0
        have hlp : lessP xs = xs.set 0 (j : Int) := by unfold lessP; rw [nb_byt hp, HM.out, hj1]
        have HR : Hid (∃ ys : List Int, Gb w.heap.size (wr.setCell ⟨g, 0, none⟩ (.int .u8 (j : Int))) (.slice (some ⟨g, 0, none⟩) 64 dd) ys ∧ IsPg ys ∧ nb ys 0 ≤ 16 ∧ EvenP ys ∧ Below w.heap.size w (wr.setCell ⟨g, 0, none⟩ (.int .u8 (j : Int))) ∧ Hid (drpP zs s = dropEnd ys)) :=
          ⟨lessP xs, by rw [hlp]; exact hA.setB hp.len 0 _, isPg_less hp h0, by rw [nb_less hp h0, HM.out]; omega, he.less hp h0, gW.setCell (p := ⟨g, 0, none⟩) hgw _, HD.out.trans (dropEnd_step hp hE1)⟩
        have HMs : Hid (headW (wr.setCell ⟨g, 0, none⟩ (.int .u8 (j : Int))) g < headW wr g) := by
          show _ < _
          unfold headW
          rw [World.cell?_setCell_same _ _ _ c0, c0]
          simp [intOf]
        clear hE hE1 hlp h0 HD he hp hA gW
        go_wp2_with fail
        go_roundw
        case rel => exact HR.out
        case measure => exact HMs.out
      | succ y =>
        have HF : Hid (drpP zs s = xs) := HD.out.trans (dropEnd_stop (by rw [hE]; rfl))
        clear hE
        go_wp2_with fail
        go_ret
        exact ⟨g, dd, rfl, gW, by rw [HF.out]; exact hA⟩

end Go.Proofs.Ytlggefcaiojemaa
