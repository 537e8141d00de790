/-
  The law FnExactPageFault answers true at all bytes.
-/
import Derived.Test.YtjbopcplpgoiaaaLoad
namespace Go.Proofs.Ytjbopcplpgoiaaa
open Go.RowKit
set_option linter.unusedVariables false

/-- The fault of bytes, and the page that the program goes on with. -/
def fltOf (zs : List Int) : Int := if zs.length = 64 then faultP zs else 1
def pg (zs : List Int) : List Int := if zs.length = 64 then zs else filled 0 0
theorem pg_len (zs : List Int) : (pg zs).length = 64 := by
  unfold pg
  split
  · assumption
  · rfl

theorem loadPage_all (a : Option Addr) (zs : List Int) (n c : Nat) (w : World) (hn : zs.length = n) (hm : n ≤ 1048576) (hc : n ≤ c) (hr : Reads w a zs) (hz : ∀ z ∈ zs, 0 ≤ z ∧ z ≤ 255) :
    Calls Try.prog 59 #[.slice a n c] w fun e w' => e = .returned (.tuple #[.agg (pgC (pg zs)), .int .i64 (fltOf zs)]) ∧ Below w.heap.size w w' := by
  by_cases h : n = 64
  · subst h
    rw [fltOf, if_pos hn, pg, if_pos hn]
    exact loadPage_any a zs c w hr ⟨hn, hz⟩ hc
  · rw [fltOf, if_neg (by omega), pg, if_neg (by omega)]
    exact loadPage_len a n c w h hm

theorem l2Fault_all (a : Option Addr) (zs : List Int) (n c : Nat) (w : World) (hn : zs.length = n) (hm : n ≤ 1048576) (hr : Reads w a zs) (hz : ∀ z ∈ zs, 0 ≤ z ∧ z ≤ 255) :
    Calls Try.prog 55 #[.slice a n c] w fun e w' => e = .returned (.int .i64 (fltOf zs)) ∧ w' = w := by
  by_cases h : n = 64
  · subst h
    rw [fltOf, if_pos hn]
    exact l2Fault_any a zs c w hr ⟨hn, hz⟩
  · rw [fltOf, if_neg (by omega)]
    exact l2Fault_len a n c w h hm

set_option maxHeartbeats 1000000 in
theorem implPageFault_any (a : Option Addr) (zs : List Int) (n c : Nat) (w : World) (hn : zs.length = n) (hm : n ≤ 1048576) (hc : n ≤ c) (hr : Reads w a zs) (hz : ∀ z ∈ zs, 0 ≤ z ∧ z ≤ 255) :
    Calls Try.prog 21 #[.slice a n c] w fun e w' => e = .returned (.int .i64 (fltOf zs)) ∧ Below w.heap.size w w' := by
  go_enter Try.func21, Try.ntmps21
  go_wp2_with fail
  refine (loadPage_all a zs n c _ hn hm hc hr hz).mono ?_
  rintro e w1 ⟨rfl, g1⟩
  have hpl := pg_len zs
  generalize pg zs = ys at hpl
  go_wp2_with (refine wpList_storePg rfl _ _ rfl _ ys rfl rfl hpl (filled 0 0) (arr_new _ (filled 0 0) rfl) ?_)
  go_ret
  exact ⟨rfl, setRow_below (g1.alloc g1.size _) g1.size _⟩

set_option maxHeartbeats 400000 in
theorem specPageFault_any (a : Option Addr) (zs : List Int) (n c : Nat) (w : World) (hn : zs.length = n) (hm : n ≤ 1048576) (hr : Reads w a zs) (hz : ∀ z ∈ zs, 0 ≤ z ∧ z ≤ 255) :
    Calls Try.prog 27 #[.slice a n c] w fun e w' => e = .returned (.int .i64 (fltOf zs)) ∧ w' = w := by
  go_enter Try.func27, Try.ntmps27
  go_wp2_with fail
  refine (l2Fault_all a zs n c _ hn hm hr hz).mono ?_
  rintro e w1 ⟨rfl, rfl⟩
  go_wp2_with fail
  go_ret
  exact ⟨rfl, rfl⟩

/-- What the walk is told of a slice of integers that came in: it is nil; or it leads to a row of cap cells, the numbers zs, each fitting its kind. -/
def IsRow (k : IntKind) (w : World) (a : Option Addr) (len cap : Nat) (zs : List Int) : Prop :=
  (a = none ∧ len = 0 ∧ cap = 0 ∧ zs = []) ∨
  ∃ x, a = some x ∧ len ≤ cap ∧ cap ≤ maxLen ∧ zs.length = cap ∧ (∀ i, i < zs.length → w.cell? (x.add i) = some (.int k (zs.getD i 0))) ∧ ∀ n ∈ zs, (Lit.int k n).wf = true

theorem isRow_reads {w : World} {a : Option Addr} {len cap : Nat} {zs : List Int} (h : IsRow .u8 w a len cap zs) : (zs.take len).length = len ∧ len ≤ cap ∧ Reads w a (zs.take len) ∧ ∀ z ∈ zs.take len, 0 ≤ z ∧ z ≤ 255 := by
  rcases h with ⟨rfl, rfl, rfl, rfl⟩ | ⟨x, rfl, hl, hm, hz, hc, hw⟩
  · exact ⟨rfl, Nat.le_refl _, .inl rfl, fun z hz => by simp at hz⟩
  · refine ⟨by simp; omega, hl, ?_, fun z hzz => ?_⟩
    · by_cases h0 : len = 0
      · exact .inl (by simp [h0])
      · obtain ⟨b, off, spot⟩ := x
        have hc0 := hc 0 (by omega)
        have hspot : spot = none := by simpa [Addr.add] using World.cell?_spot hc0
        subst hspot
        refine .inr ⟨b, off, rfl, fun i hi => ?_⟩
        have hil : i < len := by simp at hi; omega
        have e := hc i (by omega)
        have ea : (⟨b, off, none⟩ : Addr).add i = ⟨b, off + i, none⟩ := by unfold Addr.add; split <;> simp_all
        rw [ea] at e
        rw [e]
        simp [List.getD, hil]
    · have := hw z (List.mem_of_mem_take hzz)
      exact bounds_u8 this

set_option maxHeartbeats 400000 in
theorem lawPageFault_over (a : Option Addr) (n c : Nat) (w : World) (hs : 1048576 < n) :
    Calls Try.prog 5 #[.slice a n c] w fun e w' => e = .returned (.bool true) ∧ Below w.heap.size w w' := by
  have d : (1048576 : Int) < (n : Int) := by omega
  go_enter Try.func5, Try.ntmps5
  go_wp2_with fail
  go_ret
  exact ⟨rfl, Below.refl _ _⟩

set_option maxHeartbeats 1000000 in
theorem lawPageFault_fits (a : Option Addr) (zs : List Int) (n c : Nat) (w : World) (hn : zs.length = n) (hs : n ≤ 1048576) (ha : Reads w a zs) (hz : ∀ z ∈ zs, 0 ≤ z ∧ z ≤ 255) :
    Calls Try.prog 5 #[.slice a n c] w fun e w' => e = .returned (.bool true) ∧ Below w.heap.size w w' := by
  obtain ⟨q, hq⟩ : ∃ q, q = fltOf zs := ⟨_, rfl⟩
  have HR : Hid (fltOf zs = q) := hq.symm
  have HN : Hid (zs.length = n) := hn
  clear hq hn
  have d : ¬ ((1048576 : Int) < (n : Int)) := by omega
  have hm : n ≤ 140737488351232 := by omega
  go_enter Try.func5, Try.ntmps5
  go_wp2_with fail
  refine (toByteS_any a zs n c _ HN.out hs ha).mono ?_
  rintro e w1 ⟨rfl, g1, y1⟩
  have ha1 := ha.below g1 (Nat.le_refl _)
  go_wp2_with fail
  refine (specPageFault_any _ zs n n _ HN.out hs y1.reads hz).mono ?_
  rintro e w2 ⟨rfl, rfl⟩
  rw [HR.out]
  have g : Below w.heap.size w w2 := g1
  clear g1 y1
  go_wp2_with fail
  refine (toByteS_any a zs n c _ HN.out hs ha1).mono ?_
  rintro e w3 ⟨rfl, g3, y3⟩
  have ha4 := ha1.below g3 (Nat.le_refl _)
  have g : Below w.heap.size w w3 := g.trans (g3.mono g.size)
  clear g3 ha1
  go_wp2_with fail
  refine (implPageFault_any _ zs n n _ HN.out hs (Nat.le_refl _) y3.reads hz).mono ?_
  rintro e w4 ⟨rfl, g4⟩
  rw [HR.out]
  have y4 := y3.below g4
  have ha5 := ha4.below g4 (Nat.le_refl _)
  have g : Below w.heap.size w w4 := g.trans (g4.mono g.size)
  clear g4 y3 ha4
  go_wp2_with fail
  refine (toByteS_any a zs n c _ HN.out hs ha5).mono ?_
  rintro e w6 ⟨rfl, g6, y6⟩
  have y7 := y4.below g6
  have g : Below w.heap.size w w6 := g.trans (g6.mono g.size)
  clear g6 y4 ha5
  go_wp2_with fail
  refine (eqByteS_same _ _ _ _ _ _ zs n n n _ HN.out hm y7 y6).mono ?_
  rintro e w7 ⟨rfl, m, rfl⟩
  have g := below_draws g m
  clear y6 y7
  go_wp2_with fail
  go_ret
  exact ⟨rfl, g⟩

theorem lawPageFault_any (a : Option Addr) (n c : Nat) (zs : List Int) (w : World) (h : IsRow .u8 w a n c zs) :
    Calls Try.prog 5 #[.slice a n c] w fun e w' => e = .returned (.bool true) ∧ Below w.heap.size w w' := by
  obtain ⟨hn, _, hr, hz⟩ := isRow_reads h
  by_cases hs : 1048576 < n
  · exact lawPageFault_over a n c w hs
  · exact lawPageFault_fits a (zs.take n) n c w hn (by omega) hr hz

end Go.Proofs.Ytjbopcplpgoiaaa
