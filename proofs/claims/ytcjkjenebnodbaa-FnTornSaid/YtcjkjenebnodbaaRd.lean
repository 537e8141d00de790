/-
  What came in, opened: bytes and runs.
-/
import Derived.Test.YtcjkjenebnodbaaRun
import Derived.Deep.SlicePairs
import Derived.OpenShut
import Derived.ProofKit
namespace Go.Proofs.Ytcjkjenebnodbaa
open Go.ChangeShapes Go.WideShapes Go.RowKit
set_option linter.unusedVariables false

/-- A row of integers that came in: nil, or cells as the list says, up to the capacity. -/
def IsRow (k : IntKind) (w : World) (a : Option Addr) (len cap : Nat) (zs : List Int) : Prop :=
  (a = none ∧ len = 0 ∧ cap = 0 ∧ zs = []) ∨
  ∃ x, a = some x ∧ len ≤ cap ∧ cap ≤ maxLen ∧ zs.length = cap ∧ (∀ i, i < zs.length → w.cell? (x.add i) = some (.int k (zs.getD i 0))) ∧ ∀ n ∈ zs, (Lit.int k n).wf = true

theorem isRow_reads {w : World} {a : Option Addr} {len cap : Nat} {zs : List Int} (h : IsRow .u8 w a len cap zs) : (zs.take len).length = len ∧ len ≤ cap ∧ Reads w a (zs.take len) ∧ ∀ z ∈ zs.take len, 0 ≤ z ∧ z ≤ 255 := by
  rcases h with ⟨rfl, rfl, rfl, rfl⟩ | ⟨x, rfl, hl, hm, hz, hc, hw⟩
  · exact ⟨rfl, Nat.le_refl _, .inl rfl, fun z hz => by simp at hz⟩
  · refine ⟨by simp; omega, hl, ?_, fun z hzz => ?_⟩
    · by_cases h0 : len = 0
      · exact .inl (by simp [h0])
      · obtain ⟨b, off, spot⟩ := x
        have hc0 := hc 0 (by omega)
        have hspot : spot = none := by simpa [Addr.add] using World.cell?_spot hc0
        subst hspot
        refine .inr ⟨b, off, rfl, fun i hi => ?_⟩
        have hil : i < len := by simp at hi; omega
        have e := hc i (by omega)
        have ea : (⟨b, off, none⟩ : Addr).add i = ⟨b, off + i, none⟩ := by unfold Addr.add; split <;> simp_all
        rw [ea] at e
        rw [e]
        simp [List.getD, hil]
    · have := hw z (List.mem_of_mem_take hzz)
      exact bounds_u8 this

/-- Runs that came in: what they read as, up to the length. -/
structure IsRuns (w : World) (a : Option Addr) (len : Nat) (P : Nat → Int) (A : Nat → Option Addr) (C : Nat → Nat) (Z : Nat → List Int) : Prop where
  rd : RunsRead w a len P A C Z
  ln : len ≤ 9223372036854775807
  zl : ∀ i, i < len → (Z i).length ≤ 9223372036854775807
  zb : ∀ i, i < len → ∀ z ∈ Z i, 0 ≤ z ∧ z ≤ 255
  pw : ∀ i, i < len → (Lit.int .i64 (P i)).wf = true

theorem open_runs {H : Type} {enc : TypeId × Value → H} {W : World} {base : Nat} {held : Bool} {fuel : Nat} {a : Option Addr} {len cap : Nat} {x : DataW H × List MemPlace}
    (h : DataW.trod enc Try.prog W base (fun _ => true) held fuel 48 [.slice a len cap] = some x) : ∃ P A C Z, IsRuns W a len P A C Z := by
  rcases Go.Deep.open_slice_pairs Try.underlying48 Try.underlying139 (by kernel_rfl) rfl rfl (by kernel_rfl) (by kernel_rfl) h with ⟨hcs, _⟩ | ⟨y, l, c, m, n, V0, V1, D0, D1, P0, P1, hcs, hb, hl, hm, hmm, _, hcell⟩
  · simp only [List.cons.injEq, Value.slice.injEq, and_true] at hcs
    obtain ⟨rfl, rfl, rfl⟩ := hcs
    exact ⟨fun _ => 0, fun _ => none, fun _ => 0, fun _ => [], .inl rfl, by omega, fun i hi => by omega, fun i hi => by omega, fun i hi => by omega⟩
  · simp only [List.cons.injEq, Value.slice.injEq, and_true] at hcs
    obtain ⟨rfl, rfl, rfl⟩ := hcs
    simp only [if_true] at hmm
    subst hmm
    have each : ∀ i, i < len → ∃ q : Int × Option Addr × Nat × List Int, V0 i = .int .i64 q.1 ∧ (Lit.int .i64 q.1).wf = true ∧ V1 i = .slice q.2.1 q.2.2.2.length q.2.2.1 ∧ Reads W q.2.1 q.2.2.2 ∧ q.2.2.2.length ≤ 9223372036854775807 ∧ ∀ z ∈ q.2.2.2, 0 ≤ z ∧ z ≤ 255 := by
      intro i hi
      obtain ⟨_, _, t0, t1⟩ := hcell i (by omega)
      obtain ⟨p, e0, _, hp⟩ := DataW.trod_int Try.underlying2 t0
      simp only [List.cons.injEq, and_true] at e0
      rcases open_ints Try.underlying22 Try.underlying5 (by kernel_rfl) t1 with ⟨hcs, _⟩ | ⟨u, l', c', zs, hcs, _, hl', hm', hz, _, hc', hwz⟩
      · simp only [List.cons.injEq, and_true] at hcs
        exact ⟨(p, none, 0, []), e0, hp, hcs, .inl rfl, by simp, fun z hz => by simp at hz⟩
      · simp only [List.cons.injEq, and_true] at hcs
        have hrow : IsRow .u8 W (some u) l' c' zs := .inr ⟨u, rfl, hl', hm', by simpa using hz, hc', hwz⟩
        obtain ⟨h1, _, h3, h4⟩ := isRow_reads hrow
        have hml : maxLen = 9223372036854775807 := by decide
        exact ⟨(p, some u, c', zs.take l'), e0, hp, by rw [hcs]; simp only [h1], h3, by simp only [h1]; omega, h4⟩
    obtain ⟨q, hq⟩ := Go.Deep.choose_lt each
    refine ⟨fun i => (q i).1, fun i => (q i).2.1, fun i => (q i).2.2.1, fun i => (q i).2.2.2, ?_, ?_, fun i hi => (hq i hi).2.2.2.2.1, fun i hi => (hq i hi).2.2.2.2.2, fun i hi => (hq i hi).2.1⟩
    · by_cases h0 : len = 0
      · exact .inl h0
      · obtain ⟨b, off, spot⟩ := y
        have hc0 := (hcell 0 (by omega)).1
        have hspot : spot = none := by simpa [Addr.add] using World.cell?_spot hc0
        subst hspot
        have ea : ∀ i, (⟨b, off, none⟩ : Addr).add i = ⟨b, off + i, none⟩ := by intro i; unfold Addr.add; split <;> simp_all
        refine .inr ⟨b, off, rfl, fun i hi => ?_⟩
        obtain ⟨c0, c1, _, _⟩ := hcell i (by omega)
        obtain ⟨q0, _, q1, q2, _⟩ := hq i hi
        rw [ea] at c0 c1
        exact ⟨by rw [c0, q0], by rw [← q1, ← c1]; rfl, q2⟩
    · have hml : maxLen = 9223372036854775807 := by decide
      omega

end Go.Proofs.Ytcjkjenebnodbaa
