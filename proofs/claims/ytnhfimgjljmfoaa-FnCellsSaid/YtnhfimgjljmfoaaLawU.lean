/-
  The law FnExactUnpackCell answers true at all bytes.
-/
import Derived.Test.YtnhfimgjljmfoaaUnpS
namespace Go.Proofs.Ytnhfimgjljmfoaa
open Go.RowKit

/-- What the walk is told of a slice of integers that came in: it is nil; or it leads to a row of cap cells, the numbers zs, each fitting its kind. -/
def IsRow (k : IntKind) (w : World) (a : Option Addr) (len cap : Nat) (zs : List Int) : Prop :=
  (a = none ∧ len = 0 ∧ cap = 0 ∧ zs = []) ∨
  ∃ x, a = some x ∧ len ≤ cap ∧ cap ≤ maxLen ∧ zs.length = cap ∧ (∀ i, i < zs.length → w.cell? (x.add i) = some (.int k (zs.getD i 0))) ∧ ∀ n ∈ zs, (Lit.int k n).wf = true

theorem isRow_reads {w : World} {a : Option Addr} {len cap : Nat} {zs : List Int} (h : IsRow .u8 w a len cap zs) : (zs.take len).length = len ∧ len ≤ cap ∧ Reads w a (zs.take len) ∧ ∀ z ∈ zs.take len, 0 ≤ z ∧ z ≤ 255 := by
  rcases h with ⟨rfl, rfl, rfl, rfl⟩ | ⟨x, rfl, hl, hm, hz, hc, hw⟩
  · exact ⟨rfl, Nat.le_refl _, .inl rfl, fun z hz => by simp at hz⟩
  · refine ⟨by simp; omega, hl, ?_, fun z hzz => ?_⟩
    · by_cases h0 : len = 0
      · exact .inl (by simp [h0])
      · obtain ⟨b, off, spot⟩ := x
        have hc0 := hc 0 (by omega)
        have hspot : spot = none := by simpa [Addr.add] using World.cell?_spot hc0
        subst hspot
        refine .inr ⟨b, off, rfl, fun i hi => ?_⟩
        have hil : i < len := by simp at hi; omega
        have e := hc i (by omega)
        have ea : (⟨b, off, none⟩ : Addr).add i = ⟨b, off + i, none⟩ := by unfold Addr.add; split <;> simp_all
        rw [ea] at e
        rw [e]
        simp [List.getD, hil]
    · have := hw z (List.mem_of_mem_take hzz)
      exact bounds_u8 this

/-- Block b holds an answer of UnpackCell. -/
structure CelAt (w : World) (b : Nat) (q f p l t k v : Int) (s : ByteArray) : Prop where
  c0 : w.cell? ⟨b, 0, none⟩ = some (.int .i64 q)
  c1 : w.cell? ⟨b, 1, none⟩ = some (.int .i64 f)
  c2 : w.cell? ⟨b, 2, none⟩ = some (.int .i64 p)
  c3 : w.cell? ⟨b, 3, none⟩ = some (.int .i64 l)
  c4 : w.cell? ⟨b, 4, none⟩ = some (.int .i64 t)
  c5 : w.cell? ⟨b, 5, none⟩ = some (.int .i64 k)
  c6 : w.cell? ⟨b, 6, none⟩ = some (.int .i64 v)
  c7 : w.cell? ⟨b, 7, none⟩ = some (.string s)

theorem CelAt.below {b : Nat} {w w' : World} {q f p l t k v : Int} {s : ByteArray} (h : CelAt w b q f p l t k v s) (hb : Below w.heap.size w w') : CelAt w' b q f p l t k v s :=
  ⟨(hb.cell (p := ⟨b, 0, none⟩) (World.block_lt_of_cell? w _ h.c0)).trans h.c0, (hb.cell (p := ⟨b, 1, none⟩) (World.block_lt_of_cell? w _ h.c1)).trans h.c1, (hb.cell (p := ⟨b, 2, none⟩) (World.block_lt_of_cell? w _ h.c2)).trans h.c2, (hb.cell (p := ⟨b, 3, none⟩) (World.block_lt_of_cell? w _ h.c3)).trans h.c3, (hb.cell (p := ⟨b, 4, none⟩) (World.block_lt_of_cell? w _ h.c4)).trans h.c4, (hb.cell (p := ⟨b, 5, none⟩) (World.block_lt_of_cell? w _ h.c5)).trans h.c5, (hb.cell (p := ⟨b, 6, none⟩) (World.block_lt_of_cell? w _ h.c6)).trans h.c6, (hb.cell (p := ⟨b, 7, none⟩) (World.block_lt_of_cell? w _ h.c7)).trans h.c7⟩

set_option maxHeartbeats 400000 in
theorem lawUnpackCell_over (a : Option Addr) (n c : Nat) (w : World) (hs : 1048576 < n) :
    Calls Try.prog 8 #[.slice a n c] w fun e w' => e = .returned (.bool true) ∧ Below w.heap.size w w' := by
  have d : (1048576 : Int) < (n : Int) := by omega
  go_enter Try.func8, Try.ntmps8
  go_wp2_with fail
  go_ret
  exact ⟨rfl, Below.refl _ _⟩

set_option maxHeartbeats 1000000 in
theorem lawUnpackCell_fits (a : Option Addr) (zs : List Int) (n c : Nat) (w : World) (hn : zs.length = n) (hs : n ≤ 1048576) (ha : Reads w a zs) (hz : ∀ z ∈ zs, 0 ≤ z ∧ z ≤ 255) :
    Calls Try.prog 8 #[.slice a n c] w fun e w' => e = .returned (.bool true) ∧ Below w.heap.size w w' := by
  obtain ⟨q, f, p, l, t, k, v, s, hr⟩ := celV_form (unp zs)
  have HR : Hid (unp zs = Cel.mk q f p l t k v s) := hr
  have HN : Hid (zs.length = n) := hn
  clear hr hn
  have d : ¬ ((1048576 : Int) < (n : Int)) := by omega
  have hm : n ≤ 140737488351232 := by omega
  go_enter Try.func8, Try.ntmps8
  go_wp2_with fail
  refine (toByteS_any a zs n c _ HN.out hs ha).mono ?_
  rintro e w1 ⟨rfl, g1, y1⟩
  have ha1 := ha.below g1 (Nat.le_refl _)
  go_wp2_with fail
  refine (specUnpackCell_any _ zs n n _ HN.out (Nat.le_refl _) y1.reads hz).mono ?_
  rintro e w2 ⟨rfl, g2⟩
  rw [HR.out]
  simp only [celV]
  have ha2 := ha1.below g2 (Nat.le_refl _)
  have g : Below w.heap.size w w2 := g1.trans (g2.mono g1.size)
  clear g1 g2 y1 ha1
  go_wp2_with fail
  have ha3 := ha2.below (B := w2.heap.size) (w' := w2.alloc (.cells #[.int .i64 q, .int .i64 f, .int .i64 p, .int .i64 l, .int .i64 t, .int .i64 k, .int .i64 v, .string s] 28)) (by go_grown) (Nat.le_refl _)
  refine (toByteS_any a zs n c _ HN.out hs ha3).mono ?_
  rintro e w3 ⟨rfl, g3, y3⟩
  have hA : CelAt w3 w2.heap.size q f p l t k v s := CelAt.below ⟨by simp [go_sem], by simp [go_sem], by simp [go_sem], by simp [go_sem], by simp [go_sem], by simp [go_sem], by simp [go_sem], by simp [go_sem]⟩ g3
  have ha4 := ha3.below g3 (Nat.le_refl _)
  have hgz := g.size
  have g : Below w.heap.size w w3 := g.trans (Below.trans (by go_grown) (g3.mono (by simp; omega)))
  clear hgz
  have hz3 : w2.heap.size < w3.heap.size := by have := g3.size; simp at this; omega
  simp only [World.size_alloc] at y3
  clear g3 ha2 ha3
  go_wp2_with fail
  refine (implUnpackCell_any _ zs n n _ HN.out (Nat.le_refl _) y3.reads hz).mono ?_
  rintro e w4 ⟨rfl, g4⟩
  rw [HR.out]
  simp only [celV]
  have hA := hA.below g4
  have y4 := y3.below g4
  have ha5 := ha4.below g4 (Nat.le_refl _)
  have g : Below w.heap.size w w4 := g.trans (g4.mono g.size)
  have hz4 : w2.heap.size < w4.heap.size := by have := g4.size; omega
  clear g4 y3 ha4 hz3
  obtain ⟨x0, x1, x2, x3, x4, x5, x6, x7⟩ := hA
  go_wp2_with fail
  refine (eqCellResult_same q f p l t k v s _).mono ?_
  rintro e w5 ⟨rfl, g5⟩
  have gb : Below w4.heap.size w4 w5 := Below.trans (by go_grown) (g5.mono (by simp))
  have y5 := y4.below gb
  have ha6 := ha5.below gb (Nat.le_refl _)
  have g : Below w.heap.size w w5 := g.trans (gb.mono g.size)
  clear g5 gb y4 ha5 hz4 x0 x1 x2 x3 x4 x5 x6 x7
  go_wp2_with fail
  refine (toByteS_any a zs n c _ HN.out hs ha6).mono ?_
  rintro e w6 ⟨rfl, g6, y6⟩
  have y7 := y5.below g6
  have g : Below w.heap.size w w6 := g.trans (g6.mono g.size)
  clear g6 y5 ha6
  go_wp2_with fail
  refine (eqByteS_same _ _ _ _ _ _ zs n n n _ HN.out hm y7 y6).mono ?_
  rintro e w7 ⟨rfl, m, rfl⟩
  have g := below_draws g m
  clear y6 y7
  go_wp2_with fail
  go_ret
  exact ⟨rfl, g⟩

theorem lawUnpackCell_any (a : Option Addr) (n c : Nat) (zs : List Int) (w : World) (h : IsRow .u8 w a n c zs) :
    Calls Try.prog 8 #[.slice a n c] w fun e w' => e = .returned (.bool true) ∧ Below w.heap.size w w' := by
  obtain ⟨hn, _, hr, hz⟩ := isRow_reads h
  by_cases hs : 1048576 < n
  · exact lawUnpackCell_over a n c w hs
  · exact lawUnpackCell_fits a (zs.take n) n c w hn (by omega) hr hz

end Go.Proofs.Ytnhfimgjljmfoaa
