/-
  Changes made one's own: toChangeS.
-/
import Derived.Test.YtmboclfgldgefaaGreatPFChr
import Derived.Shelf.Pu.Clone
import Derived.Ground.MpProg
import Derived.Test.YtmboclfgldgefaaGreatProg
import Derived.Test.YtmboclfgldgefaaGreatPFChf

namespace Go.Proofs.YtmboclfgldgefaaGreat
open Go.RowKit Go.Maps
set_option linter.unusedVariables false

/-- Ten cells written. -/
def put10 (w : World) (b o : Nat) (x : Chg) : World := (((((((((w.setCell ⟨b, o, none⟩ (.bool x.was)).setCell ⟨b, o + 1, none⟩ (.int .i64 x.b.t)).setCell ⟨b, o + 2, none⟩ (.int .i64 x.b.k)).setCell ⟨b, o + 3, none⟩ (.int .i64 x.b.v)).setCell ⟨b, o + 4, none⟩ (.string x.b.s)).setCell ⟨b, o + 5, none⟩ (.bool x.is)).setCell ⟨b, o + 6, none⟩ (.int .i64 x.a.t)).setCell ⟨b, o + 7, none⟩ (.int .i64 x.a.k)).setCell ⟨b, o + 8, none⟩ (.int .i64 x.a.v)).setCell ⟨b, o + 9, none⟩ (.string x.a.s)
theorem put10_same {w : World} {b o : Nat} {x : Chg} (h : ∀ i, i < 10 → ∃ v, w.cell? ⟨b, o + i, none⟩ = some v) : ChC (put10 w b o x) b o x := by
  obtain ⟨v0, h0⟩ := h 0 (by omega)
  obtain ⟨v1, h1⟩ := h 1 (by omega)
  obtain ⟨v2, h2⟩ := h 2 (by omega)
  obtain ⟨v3, h3⟩ := h 3 (by omega)
  obtain ⟨v4, h4⟩ := h 4 (by omega)
  obtain ⟨v5, h5⟩ := h 5 (by omega)
  obtain ⟨v6, h6⟩ := h 6 (by omega)
  obtain ⟨v7, h7⟩ := h 7 (by omega)
  obtain ⟨v8, h8⟩ := h 8 (by omega)
  obtain ⟨v9, h9⟩ := h 9 (by omega)
  rw [Nat.add_zero] at h0
  unfold put10
  refine ⟨?_, ?_, ?_, ?_, ?_, ?_, ?_, ?_, ?_, ?_⟩
  · rw [cell_off (by omega), cell_off (by omega), cell_off (by omega), cell_off (by omega), cell_off (by omega), cell_off (by omega), cell_off (by omega), cell_off (by omega), cell_off (by omega)]
    exact World.cell?_setCell_same _ _ _ h0
  · rw [cell_off (by omega), cell_off (by omega), cell_off (by omega), cell_off (by omega), cell_off (by omega), cell_off (by omega), cell_off (by omega), cell_off (by omega)]
    exact World.cell?_setCell_same _ _ _ (by rw [cell_off (by omega)]; exact h1)
  · rw [cell_off (by omega), cell_off (by omega), cell_off (by omega), cell_off (by omega), cell_off (by omega), cell_off (by omega), cell_off (by omega)]
    exact World.cell?_setCell_same _ _ _ (by rw [cell_off (by omega), cell_off (by omega)]; exact h2)
  · rw [cell_off (by omega), cell_off (by omega), cell_off (by omega), cell_off (by omega), cell_off (by omega), cell_off (by omega)]
    exact World.cell?_setCell_same _ _ _ (by rw [cell_off (by omega), cell_off (by omega), cell_off (by omega)]; exact h3)
  · rw [cell_off (by omega), cell_off (by omega), cell_off (by omega), cell_off (by omega), cell_off (by omega)]
    exact World.cell?_setCell_same _ _ _ (by rw [cell_off (by omega), cell_off (by omega), cell_off (by omega), cell_off (by omega)]; exact h4)
  · rw [cell_off (by omega), cell_off (by omega), cell_off (by omega), cell_off (by omega)]
    exact World.cell?_setCell_same _ _ _ (by rw [cell_off (by omega), cell_off (by omega), cell_off (by omega), cell_off (by omega), cell_off (by omega)]; exact h5)
  · rw [cell_off (by omega), cell_off (by omega), cell_off (by omega)]
    exact World.cell?_setCell_same _ _ _ (by rw [cell_off (by omega), cell_off (by omega), cell_off (by omega), cell_off (by omega), cell_off (by omega), cell_off (by omega)]; exact h6)
  · rw [cell_off (by omega), cell_off (by omega)]
    exact World.cell?_setCell_same _ _ _ (by rw [cell_off (by omega), cell_off (by omega), cell_off (by omega), cell_off (by omega), cell_off (by omega), cell_off (by omega), cell_off (by omega)]; exact h7)
  · rw [cell_off (by omega)]
    exact World.cell?_setCell_same _ _ _ (by rw [cell_off (by omega), cell_off (by omega), cell_off (by omega), cell_off (by omega), cell_off (by omega), cell_off (by omega), cell_off (by omega), cell_off (by omega)]; exact h8)
  · exact World.cell?_setCell_same _ _ _ (by rw [cell_off (by omega), cell_off (by omega), cell_off (by omega), cell_off (by omega), cell_off (by omega), cell_off (by omega), cell_off (by omega), cell_off (by omega), cell_off (by omega)]; exact h9)
theorem put10_other {w : World} {b o p : Nat} {x : Chg} (h : p < o ∨ o + 10 ≤ p) : (put10 w b o x).cell? ⟨b, p, none⟩ = w.cell? ⟨b, p, none⟩ := by
  unfold put10
  rw [cell_off (by omega), cell_off (by omega), cell_off (by omega), cell_off (by omega), cell_off (by omega), cell_off (by omega), cell_off (by omega), cell_off (by omega), cell_off (by omega), cell_off (by omega)]
theorem put10_frozen {w : World} {b o : Nat} {x : Chg} (p : Addr) : (put10 w b o x).frozen? p = w.frozen? p := by
  unfold put10
  rw [World.frozen?_setCell, World.frozen?_setCell, World.frozen?_setCell, World.frozen?_setCell, World.frozen?_setCell, World.frozen?_setCell, World.frozen?_setCell, World.frozen?_setCell, World.frozen?_setCell, World.frozen?_setCell]
theorem ChC.cells {w : World} {b o : Nat} {x : Chg} (h : ChC w b o x) : ∀ j u, (chE x)[j]? = some u → w.cell? ⟨b, o + j, none⟩ = some u := by
  intro j u hu
  match j, hu with
  | 0, hu => simp [chE] at hu; subst hu; exact h.c0
  | 1, hu => simp [chE] at hu; subst hu; exact h.c1
  | 2, hu => simp [chE] at hu; subst hu; exact h.c2
  | 3, hu => simp [chE] at hu; subst hu; exact h.c3
  | 4, hu => simp [chE] at hu; subst hu; exact h.c4
  | 5, hu => simp [chE] at hu; subst hu; exact h.c5
  | 6, hu => simp [chE] at hu; subst hu; exact h.c6
  | 7, hu => simp [chE] at hu; subst hu; exact h.c7
  | 8, hu => simp [chE] at hu; subst hu; exact h.c8
  | 9, hu => simp [chE] at hu; subst hu; exact h.c9
  | j + 10, hu => simp [chE] at hu

/-- Block g holds n changes, of which the first k are there. -/
structure PartC (w : World) (g n k : Nat) (cs : List Chg) : Prop where
  c : ∀ i r, i < k → cs[i]? = some r → ChC w g (i * 10) r
  e : ∀ o, o < n * 10 → ∃ v, w.cell? ⟨g, o, none⟩ = some v
  f : ∀ o, w.frozen? ⟨g, o, none⟩ = false
theorem PartC.below {w w' : World} {g n k : Nat} {cs : List Chg} (h : PartC w g n k cs) (hb : Below w.heap.size w w') (hg : g < w.heap.size) : PartC w' g n k cs :=
  ⟨fun i r hi hr => (h.c i r hi hr).below hb hg, fun o ho => by obtain ⟨v, hv⟩ := h.e o ho; exact ⟨v, (hb.cell (p := ⟨g, _, none⟩) hg).trans hv⟩, fun o => (hb.frozen (p := ⟨g, _, none⟩) hg).trans (h.f o)⟩
theorem PartC.step {w : World} {g n k : Nat} {cs : List Chg} {r : Chg} (h : PartC w g n k cs) (hk : k < n) (hr : cs[k]? = some r) : PartC (put10 w g (k * 10) r) g n (k + 1) cs := by
  have hs : ChC (put10 w g (k * 10) r) g (k * 10) r := put10_same fun i hi => h.e (k * 10 + i) (by omega)
  refine ⟨fun i r' hi hr' => ?_, fun o ho => ?_, fun o => by rw [put10_frozen]; exact h.f o⟩
  · by_cases e : i = k
    · subst e
      rw [hr] at hr'
      cases hr'
      exact hs
    · obtain ⟨c0, c1, c2, c3, c4, c5, c6, c7, c8, c9⟩ := h.c i r' (by omega) hr'
      exact ⟨by rw [put10_other (by omega)]; exact c0, by rw [put10_other (by omega)]; exact c1, by rw [put10_other (by omega)]; exact c2, by rw [put10_other (by omega)]; exact c3, by rw [put10_other (by omega)]; exact c4, by rw [put10_other (by omega)]; exact c5, by rw [put10_other (by omega)]; exact c6, by rw [put10_other (by omega)]; exact c7, by rw [put10_other (by omega)]; exact c8, by rw [put10_other (by omega)]; exact c9⟩
  · by_cases e : k * 10 ≤ o ∧ o < k * 10 + 10
    · have : o = k * 10 ∨ o = k * 10 + 1 ∨ o = k * 10 + 2 ∨ o = k * 10 + 3 ∨ o = k * 10 + 4 ∨ o = k * 10 + 5 ∨ o = k * 10 + 6 ∨ o = k * 10 + 7 ∨ o = k * 10 + 8 ∨ o = k * 10 + 9 := by omega
      rcases this with rfl | rfl | rfl | rfl | rfl | rfl | rfl | rfl | rfl | rfl
      · exact ⟨_, hs.c0⟩
      · exact ⟨_, hs.c1⟩
      · exact ⟨_, hs.c2⟩
      · exact ⟨_, hs.c3⟩
      · exact ⟨_, hs.c4⟩
      · exact ⟨_, hs.c5⟩
      · exact ⟨_, hs.c6⟩
      · exact ⟨_, hs.c7⟩
      · exact ⟨_, hs.c8⟩
      · exact ⟨_, hs.c9⟩
    · rw [put10_other (by omega)]; exact h.e o ho
theorem PartC.own {w : World} {g n : Nat} {cs : List Chg} (h : PartC w g n n cs) (hn : cs.length = n) {lo hi : Nat} (hl : lo ≤ g) (hh : g < hi) : SlIn chE 10 lo hi w (some ⟨g, 0, none⟩) cs := by
  refine .inr ⟨g, 0, rfl, hl, hh, fun i r hr j u hu => ?_⟩
  have hi : i < n := by rw [← hn]; exact (List.getElem?_eq_some_iff.1 hr).1
  rw [Nat.zero_add]
  exact ⟨(h.c i r hi hr).cells j u hu, h.f _⟩

set_option maxRecDepth 20000 in
set_option maxHeartbeats 4000000 in
theorem toChangeS_any (a : Option Addr) (cs : List Chg) (n c : Nat) (w : World) (hn : cs.length = n) (hm : n ≤ 1048576) (hr : Rs chE 10 w a cs) :
    Calls Tryz.prog 70 #[.slice a n c] w fun e w' => e = .returned (.slice (some ⟨w.heap.size, 0, none⟩) n n) ∧ Below w.heap.size w w' ∧ SlIn chE 10 w.heap.size w'.heap.size w' (some ⟨w.heap.size, 0, none⟩) cs := by
  obtain ⟨i0, hi, hz0, hz1, hz2⟩ := infoC
  have HN : Hid (cs.length = n) := hn
  have HR : Hid (Rs chE 10 w a cs) := hr
  clear hn hr
  go_enter Tryz.func70, Tryz.ntmps70
  go_wp2_with (at_make; refine wpList_make_full _ rfl _ _ 70 rfl w.heap.size 115 i0 (.agg #[.bool false, .int .i64 0, .int .i64 0, .int .i64 0, .string ⟨#[]⟩, .bool false, .int .i64 0, .int .i64 0, .int .i64 0, .string ⟨#[]⟩]) 10 Tryz.underlying70 hi hz0 hz1 .i64 .i64 _ _ n rfl rfl rfl rfl ?c1 ?c2 (Nat.le_refl _) ?_)
  case c1 => rw [hz2]; omega
  case c2 => unfold maxLen; omega
  intro w1 hown hg
  have hB : Below w.heap.size w w1 := Below.grown (Below.refl _ _) hg (Nat.le_refl _) (fun k hk => by cases hk)
  have hlt1 : w.heap.size < w1.heap.size := (hown.lt w.heap.size (by simp [Value.ownBlock])).2
  have hP : PartC w1 w.heap.size n 0 cs := ⟨fun i r hi => absurd hi (Nat.not_lt_zero _), fun o ho => ⟨_, by rw [hown.cellAt o (by omega)]; exact List.getElem?_eq_getElem (by simpa [madeCells] using ho)⟩, fun o => hown.frozenAt _⟩
  clear hown hg hi hz0 hz1 hz2
  by_cases h0 : n = 0
  · subst h0
    go_wp2_with fail
    go_rounds 1
    go_ret
    exact ⟨rfl, hB, hP.own HN.out (Nat.le_refl _) hlt1⟩
  obtain ⟨b, off, ha⟩ : ∃ b off, a = some ⟨b, off, none⟩ := by
    obtain ⟨r, hr⟩ := at_ltC (cs := cs) (i := 0) (by rw [HN.out]; omega)
    obtain ⟨b, off, ha, _⟩ := HR.out.chg hr
    exact ⟨b, off, ha⟩
  subst ha
  go_wp2_with fail
  go_loopw [4] (fun i wr => ∃ k : Nat, k ≤ n ∧ i = .int .i64 k ∧ Below w.heap.size w wr ∧ PartC wr w.heap.size n k cs ∧ w.heap.size < wr.heap.size) (fun i _ => n - (intOf i).toNat)
  case atStart => exact ⟨0, Nat.zero_le _, rfl, hB, hP, hlt1⟩
  case round =>
    obtain ⟨k, hk, rfl, g, hP, hlt⟩ := hrel
    clear hB hlt1
    by_cases hlt2 : k < n
    · obtain ⟨x, hx⟩ := at_ltC (cs := cs) (i := k) (by rw [HN.out]; exact hlt2)
      have Z := (HR.out.below g (Nat.le_refl _)).chgAt hx
      have HK : Hid (cs[k]? = some x) := hx
      clear hx
      have hkn : (k : Int) < (n : Int) := by omega
      obtain ⟨x0, ⟨bt, bk, bv, bs⟩, x5, ⟨at', ak, av, sa⟩⟩ := x
      obtain ⟨e0, e1, e2, e3, e4, e5, e6, e7, e8, e9⟩ := Z
      dsimp only at e0 e1 e2 e3 e4 e5 e6 e7 e8 e9
      go_wp2_with fail
      refine (toChange_any x0 bt bk bv bs x5 at' ak av sa _).mono ?_
      rintro e w' ⟨rfl, g'⟩
      have hP := hP.below g' hlt
      have g2 : Below w.heap.size w w' := g.trans (g'.mono g.size)
      have hlt' : w.heap.size < w'.heap.size := by have := g'.size; omega
      have hP' := hP.step hlt2 HK.out
      obtain ⟨v0, r0⟩ := hP.e (k * 10) (by omega)
      obtain ⟨v1, r1⟩ := hP.e (k * 10 + 1) (by omega)
      obtain ⟨v2, r2⟩ := hP.e (k * 10 + 2) (by omega)
      obtain ⟨v3, r3⟩ := hP.e (k * 10 + 3) (by omega)
      obtain ⟨v4, r4⟩ := hP.e (k * 10 + 4) (by omega)
      obtain ⟨v5, r5⟩ := hP.e (k * 10 + 5) (by omega)
      obtain ⟨v6, r6⟩ := hP.e (k * 10 + 6) (by omega)
      obtain ⟨v7, r7⟩ := hP.e (k * 10 + 7) (by omega)
      obtain ⟨v8, r8⟩ := hP.e (k * 10 + 8) (by omega)
      obtain ⟨v9, r9⟩ := hP.e (k * 10 + 9) (by omega)
      have f0 := hP.f (k * 10)
      have f1 := hP.f (k * 10 + 1)
      have f2 := hP.f (k * 10 + 2)
      have f3 := hP.f (k * 10 + 3)
      have f4 := hP.f (k * 10 + 4)
      have f5 := hP.f (k * 10 + 5)
      have f6 := hP.f (k * 10 + 6)
      have f7 := hP.f (k * 10 + 7)
      have f8 := hP.f (k * 10 + 8)
      have f9 := hP.f (k * 10 + 9)
      clear g g' hP e0 e1 e2 e3 e4 e5 e6 e7 e8 e9 HK
      go_wp2_with fail
      go_roundw
      case rel => exact ⟨k + 1, by omega, by go_num, by go_grown, hP', by simp; omega⟩
      case measure => simp [intOf]; omega
    · have e : k = n := by omega
      subst e
      go_wp2_with fail
      go_ret
      exact ⟨rfl, g, hP.own HN.out (Nat.le_refl _) hlt⟩

end Go.Proofs.YtmboclfgldgefaaGreat

/-
  DERIVED: THE SHELF's CONTRACTS AT THIS DUMP, IN PLAIN WORDS (tools/lay-plain.mjs out of 'TryShg9.lean', which tools/lay-shelf.mjs wrote): THE SAME DECLARATIONS UNDER THE SAME NAMES: 'import', 'namespace', 'open', 'def', 'theorem' AND NOTHING ELSE: no command of the shelf's: FOR A HAND-IN. Each laying: the table of numbers ('.._ren') and one theorem, a field a fact of the dump's own or the kernel's comparison; each contract: ONE APPLICATION.
-/
namespace Go.Proofs
open Go.Shelf
def Tryz.cloneL_ren : Go.Shelf.Ren := ⟨fun | 25 => 125 | n => n, fun | 9 => 9 | 3 => 3 | 4 => 4 | 37 => 130 | 0 => 0 | 47 => 172 | 5 => 5 | n => n, fun | n => n⟩
theorem Tryz.cloneL : Go.Proofs.LaysPu.n25 Tryz.prog Tryz.cloneL_ren := {
  mixed := by kernel_rfl
  f25 := Tryz.func125.trans (congrArg some (by kernel_rfl))
  t0 := Tryz.underlying0
  a0 := Tryz.isAgg0
  z0 := Tryz.sizeOf0
  v0 := Tryz.zeroValue0
  i0 := by kernel_rfl
  t3 := Tryz.underlying3
  a3 := Tryz.isAgg3
  z3 := Tryz.sizeOf3
  v3 := Tryz.zeroValue3
  i3 := by kernel_rfl
  t4 := Tryz.underlying4
  a4 := Tryz.isAgg4
  z4 := Tryz.sizeOf4
  v4 := Tryz.zeroValue4
  i4 := by kernel_rfl
  t5 := Tryz.underlying5
  a5 := Tryz.isAgg5
  z5 := Tryz.sizeOf5
  v5 := Tryz.zeroValue5
  i5 := by kernel_rfl
  t9 := Tryz.underlying9
  a9 := Tryz.isAgg9
  z9 := Tryz.sizeOf9
  v9 := Tryz.zeroValue9
  i9 := by kernel_rfl
  t37 := Tryz.underlying130
  a37 := Tryz.isAgg130
  z37 := Tryz.sizeOf130
  v37 := Tryz.zeroValue130
  i37 := by kernel_rfl
  t47 := Tryz.underlying172
  a47 := Tryz.isAgg172
  z47 := Tryz.sizeOf172
  v47 := Tryz.zeroValue172
  i47 := by kernel_rfl }
end Go.Proofs

/-
  A row with a text of its own: strings.Clone, ownRow. A change: its ten cells.
-/
namespace Go.Proofs.YtmboclfgldgefaaGreat
open Go.RowKit
set_option linter.unusedVariables false

set_option maxHeartbeats 400000 in
theorem clone_any (s : ByteArray) (w : World) (hs : s.size ≤ 1048576) : Calls Tryz.prog 112 #[.string s] w fun e w' => e = .returned (.string s) ∧ Below w.heap.size w w' := by
  have hcon := AnyPu.stringslite_Clone Tryz.cloneL s w (by omega)
  change Calls Tryz.prog 125 _ _ _ at hcon
  go_enter Tryz.func112, Tryz.ntmps112
  go_wp2_with (go_at_call 125; refine hcon.mono ?_; rintro e w' ⟨rfl, g⟩)
  go_ret
  exact ⟨rfl, g⟩

set_option maxHeartbeats 1000000 in
theorem ownRow_any (t k v : Int) (s : ByteArray) (w : World) (hs : s.size ≤ 1048576) : Calls Tryz.prog 87 #[.agg #[.int .i64 t, .int .i64 k, .int .i64 v, .string s]] w fun e w' => e = .returned (.agg #[.int .i64 t, .int .i64 k, .int .i64 v, .string s]) ∧ Below w.heap.size w w' := by
  have hcon := fun W => clone_any s W hs
  have HC : Hid (∀ W, Calls Tryz.prog 112 #[.string s] W fun e w' => e = .returned (.string s) ∧ Below W.heap.size W w') := hcon
  clear hcon
  go_enter Tryz.func87, Tryz.ntmps87
  go_upto_region 1 with (fail)
  generalize hY : World.alloc _ _ = Y
  have gY : Below w.heap.size w Y := by rw [← hY]; go_grown
  have C : RowC Y w.heap.size 0 ⟨t, k, v, s⟩ := by rw [← hY]; exact ⟨by simp [go_sem], by simp [go_sem], by simp [go_sem], by simp [go_sem]⟩
  have f3 : Y.frozen? ⟨w.heap.size, 3, none⟩ = false := by rw [← hY]; simp [go_sem]
  have Z : RowC Y (w.heap.size + 1) 0 ⟨0, 0, 0, ⟨#[]⟩⟩ := by rw [← hY]; exact ⟨by simp [go_sem], by simp [go_sem], by simp [go_sem], by simp [go_sem]⟩
  have z0 : Y.frozen? ⟨w.heap.size + 1, 0, none⟩ = false := by rw [← hY]; simp [go_sem]
  have z1 : Y.frozen? ⟨w.heap.size + 1, 1, none⟩ = false := by rw [← hY]; simp [go_sem]
  have z2 : Y.frozen? ⟨w.heap.size + 1, 2, none⟩ = false := by rw [← hY]; simp [go_sem]
  have z3 : Y.frozen? ⟨w.heap.size + 1, 3, none⟩ = false := by rw [← hY]; simp [go_sem]
  clear hY
  have hlC := C.lt
  have hlZ := Z.lt
  have hne : w.heap.size + 1 ≠ w.heap.size := by omega
  have hge : w.heap.size ≤ w.heap.size + 1 := by omega
  obtain ⟨b1, hb1⟩ : ∃ b1, b1 = w.heap.size + 1 := ⟨_, rfl⟩
  rw [← hb1] at Z z0 z1 z2 z3 hlZ hne hge ⊢
  have gsz := Nat.le_refl w.heap.size
  have hb0 : w.heap.size ≤ w.heap.size := Nat.le_refl _
  clear hb1
  obtain ⟨b0, hb0'⟩ : ∃ b0, b0 = w.heap.size := ⟨_, rfl⟩
  have hB0 : w.heap.size ≤ b0 := by omega
  have hB1 : w.heap.size ≤ b1 := by omega
  have hnn : b1 ≠ b0 := by omega
  rw [← hb0'] at C f3 hlC ⊢
  clear hb0' hne hge gsz hb0
  obtain ⟨y0, y1, y2, y3⟩ := C
  dsimp only at y0 y1 y2 y3
  go_wp2_with fail
  refine (HC.out _).mono ?_
  rintro e w' ⟨rfl, g⟩
  have C : RowC w' b0 0 ⟨t, k, v, s⟩ := RowC.below (w := Y) ⟨y0, y1, y2, y3⟩ g hlC
  have Z := Z.below g hlZ
  have f3 := (g.frozen (p := ⟨b0, 3, none⟩) hlC).trans f3
  have z0 := (g.frozen (p := ⟨b1, 0, none⟩) hlZ).trans z0
  have z1 := (g.frozen (p := ⟨b1, 1, none⟩) hlZ).trans z1
  have z2 := (g.frozen (p := ⟨b1, 2, none⟩) hlZ).trans z2
  have z3 := (g.frozen (p := ⟨b1, 3, none⟩) hlZ).trans z3
  have gg := gY.trans (g.mono gY.size)
  clear y0 y1 y2 y3 g gY hlC hlZ
  obtain ⟨y0, y1, y2, y3⟩ := C
  obtain ⟨x0, x1, x2, x3⟩ := Z
  dsimp only at y0 y1 y2 y3 x0 x1 x2 x3
  go_wp2_with fail
  refine bodyPost_ret (v := .agg #[.int .i64 t, .int .i64 k, .int .i64 v, .string s]) (by simp [results, Tryz.results87, go_sem, *]) rfl ?_
  exact ⟨rfl, by go_grown⟩

end Go.Proofs.YtmboclfgldgefaaGreat
