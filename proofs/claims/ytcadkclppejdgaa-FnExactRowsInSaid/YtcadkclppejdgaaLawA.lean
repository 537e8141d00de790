/-
  The law FnExactPageFault answers true at all bytes.
-/
import Derived.Test.YtcadkclppejdgaaLoad
namespace Go.Proofs.Ytcadkclppejdgaa
open Go.RowKit
set_option linter.unusedVariables false

/-- The fault of bytes, and the page that the program goes on with. -/
def fltOf (zs : List Int) : Int := if zs.length = 64 then faultP zs else 1
def pg (zs : List Int) : List Int := if zs.length = 64 then zs else filled 0 0
theorem pg_len (zs : List Int) : (pg zs).length = 64 := by
  unfold pg
  split
  · assumption
  · rfl

theorem loadPage_all (a : Option Addr) (zs : List Int) (n c : Nat) (w : World) (hn : zs.length = n) (hm : n ≤ 1048576) (hc : n ≤ c) (hr : Reads w a zs) (hz : ∀ z ∈ zs, 0 ≤ z ∧ z ≤ 255) :
    Calls Try.prog 122 #[.slice a n c] w fun e w' => e = .returned (.tuple #[.agg (pgC (pg zs)), .int .i64 (fltOf zs)]) ∧ Below w.heap.size w w' := by
  by_cases h : n = 64
  · subst h
    rw [fltOf, if_pos hn, pg, if_pos hn]
    exact loadPage_any a zs c w hr ⟨hn, hz⟩ hc
  · rw [fltOf, if_neg (by omega), pg, if_neg (by omega)]
    exact loadPage_len a n c w h hm

theorem l2Fault_all (a : Option Addr) (zs : List Int) (n c : Nat) (w : World) (hn : zs.length = n) (hm : n ≤ 1048576) (hr : Reads w a zs) (hz : ∀ z ∈ zs, 0 ≤ z ∧ z ≤ 255) :
    Calls Try.prog 98 #[.slice a n c] w fun e w' => e = .returned (.int .i64 (fltOf zs)) ∧ w' = w := by
  by_cases h : n = 64
  · subst h
    rw [fltOf, if_pos hn]
    exact l2Fault_any a zs c w hr ⟨hn, hz⟩
  · rw [fltOf, if_neg (by omega)]
    exact l2Fault_len a n c w h hm

/-- What the walk is told of a slice of integers that came in: it is nil; or it leads to a row of cap cells, the numbers zs, each fitting its kind. -/
def IsRow (k : IntKind) (w : World) (a : Option Addr) (len cap : Nat) (zs : List Int) : Prop :=
  (a = none ∧ len = 0 ∧ cap = 0 ∧ zs = []) ∨
  ∃ x, a = some x ∧ len ≤ cap ∧ cap ≤ maxLen ∧ zs.length = cap ∧ (∀ i, i < zs.length → w.cell? (x.add i) = some (.int k (zs.getD i 0))) ∧ ∀ n ∈ zs, (Lit.int k n).wf = true

theorem isRow_reads {w : World} {a : Option Addr} {len cap : Nat} {zs : List Int} (h : IsRow .u8 w a len cap zs) : (zs.take len).length = len ∧ len ≤ cap ∧ Reads w a (zs.take len) ∧ ∀ z ∈ zs.take len, 0 ≤ z ∧ z ≤ 255 := by
  rcases h with ⟨rfl, rfl, rfl, rfl⟩ | ⟨x, rfl, hl, hm, hz, hc, hw⟩
  · exact ⟨rfl, Nat.le_refl _, .inl rfl, fun z hz => by simp at hz⟩
  · refine ⟨by simp; omega, hl, ?_, fun z hzz => ?_⟩
    · by_cases h0 : len = 0
      · exact .inl (by simp [h0])
      · obtain ⟨b, off, spot⟩ := x
        have hc0 := hc 0 (by omega)
        have hspot : spot = none := by simpa [Addr.add] using World.cell?_spot hc0
        subst hspot
        refine .inr ⟨b, off, rfl, fun i hi => ?_⟩
        have hil : i < len := by simp at hi; omega
        have e := hc i (by omega)
        have ea : (⟨b, off, none⟩ : Addr).add i = ⟨b, off + i, none⟩ := by unfold Addr.add; split <;> simp_all
        rw [ea] at e
        rw [e]
        simp [List.getD, hil]
    · have := hw z (List.mem_of_mem_take hzz)
      exact bounds_u8 this

end Go.Proofs.Ytcadkclppejdgaa

