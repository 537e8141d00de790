/-
  What came in, opened: bytes and runs.
-/
import Derived.Test.YtpoccjlngbdjlaaQCopy
import Derived.Deep.SlicePairs
import Derived.OpenShut
import Derived.ProofKit
import Derived.Test.YtpoccjlngbdjlaaQRunF

namespace Go.Proofs.Ytpoccjlngbdjlaa
open Go.ChangeShapes Go.WideShapes Go.RowKit
set_option linter.unusedVariables false

/-- A row of integers that came in: nil, or cells as the list says, up to the capacity. -/
def IsRow (k : IntKind) (w : World) (a : Option Addr) (len cap : Nat) (zs : List Int) : Prop :=
  (a = none ∧ len = 0 ∧ cap = 0 ∧ zs = []) ∨
  ∃ x, a = some x ∧ len ≤ cap ∧ cap ≤ maxLen ∧ zs.length = cap ∧ (∀ i, i < zs.length → w.cell? (x.add i) = some (.int k (zs.getD i 0))) ∧ ∀ n ∈ zs, (Lit.int k n).wf = true

theorem isRow_reads {w : World} {a : Option Addr} {len cap : Nat} {zs : List Int} (h : IsRow .u8 w a len cap zs) : (zs.take len).length = len ∧ len ≤ cap ∧ Reads w a (zs.take len) ∧ ∀ z ∈ zs.take len, 0 ≤ z ∧ z ≤ 255 := by
  rcases h with ⟨rfl, rfl, rfl, rfl⟩ | ⟨x, rfl, hl, hm, hz, hc, hw⟩
  · exact ⟨rfl, Nat.le_refl _, .inl rfl, fun z hz => by simp at hz⟩
  · refine ⟨by simp; omega, hl, ?_, fun z hzz => ?_⟩
    · by_cases h0 : len = 0
      · exact .inl (by simp [h0])
      · obtain ⟨b, off, spot⟩ := x
        have hc0 := hc 0 (by omega)
        have hspot : spot = none := by simpa [Addr.add] using World.cell?_spot hc0
        subst hspot
        refine .inr ⟨b, off, rfl, fun i hi => ?_⟩
        have hil : i < len := by simp at hi; omega
        have e := hc i (by omega)
        have ea : (⟨b, off, none⟩ : Addr).add i = ⟨b, off + i, none⟩ := by unfold Addr.add; split <;> simp_all
        rw [ea] at e
        rw [e]
        simp [List.getD, hil]
    · have := hw z (List.mem_of_mem_take hzz)
      exact bounds_u8 this

/-- Runs that came in: what they read as, up to the length. -/
structure IsRuns (w : World) (a : Option Addr) (len : Nat) (P : Nat → Int) (A : Nat → Option Addr) (C : Nat → Nat) (Z : Nat → List Int) : Prop where
  rd : RunsRead w a len P A C Z
  ln : len ≤ 9223372036854775807
  zl : ∀ i, i < len → (Z i).length ≤ 9223372036854775807
  zb : ∀ i, i < len → ∀ z ∈ Z i, 0 ≤ z ∧ z ≤ 255
  pw : ∀ i, i < len → (Lit.int .i64 (P i)).wf = true

theorem open_runs {H : Type} {enc : TypeId × Value → H} {W : World} {base : Nat} {held : Bool} {fuel : Nat} {a : Option Addr} {len cap : Nat} {x : DataW H × List MemPlace}
    (h : DataW.trod enc Try.prog W base (fun _ => true) held fuel 44 [.slice a len cap] = some x) : ∃ P A C Z, IsRuns W a len P A C Z := by
  rcases Go.Deep.open_slice_pairs Try.underlying44 Try.underlying71 (by kernel_rfl) rfl rfl (by kernel_rfl) (by kernel_rfl) h with ⟨hcs, _⟩ | ⟨y, l, c, m, n, V0, V1, D0, D1, P0, P1, hcs, hb, hl, hm, hmm, _, hcell⟩
  · simp only [List.cons.injEq, Value.slice.injEq, and_true] at hcs
    obtain ⟨rfl, rfl, rfl⟩ := hcs
    exact ⟨fun _ => 0, fun _ => none, fun _ => 0, fun _ => [], .inl rfl, by omega, fun i hi => by omega, fun i hi => by omega, fun i hi => by omega⟩
  · simp only [List.cons.injEq, Value.slice.injEq, and_true] at hcs
    obtain ⟨rfl, rfl, rfl⟩ := hcs
    simp only [if_true] at hmm
    subst hmm
    have each : ∀ i, i < len → ∃ q : Int × Option Addr × Nat × List Int, V0 i = .int .i64 q.1 ∧ (Lit.int .i64 q.1).wf = true ∧ V1 i = .slice q.2.1 q.2.2.2.length q.2.2.1 ∧ Reads W q.2.1 q.2.2.2 ∧ q.2.2.2.length ≤ 9223372036854775807 ∧ ∀ z ∈ q.2.2.2, 0 ≤ z ∧ z ≤ 255 := by
      intro i hi
      obtain ⟨_, _, t0, t1⟩ := hcell i (by omega)
      obtain ⟨p, e0, _, hp⟩ := DataW.trod_int Try.underlying2 t0
      simp only [List.cons.injEq, and_true] at e0
      rcases open_ints Try.underlying22 Try.underlying5 (by kernel_rfl) t1 with ⟨hcs, _⟩ | ⟨u, l', c', zs, hcs, _, hl', hm', hz, _, hc', hwz⟩
      · simp only [List.cons.injEq, and_true] at hcs
        exact ⟨(p, none, 0, []), e0, hp, hcs, .inl rfl, by simp, fun z hz => by simp at hz⟩
      · simp only [List.cons.injEq, and_true] at hcs
        have hrow : IsRow .u8 W (some u) l' c' zs := .inr ⟨u, rfl, hl', hm', by simpa using hz, hc', hwz⟩
        obtain ⟨h1, _, h3, h4⟩ := isRow_reads hrow
        have hml : maxLen = 9223372036854775807 := by decide
        exact ⟨(p, some u, c', zs.take l'), e0, hp, by rw [hcs]; simp only [h1], h3, by simp only [h1]; omega, h4⟩
    obtain ⟨q, hq⟩ := Go.Deep.choose_lt each
    refine ⟨fun i => (q i).1, fun i => (q i).2.1, fun i => (q i).2.2.1, fun i => (q i).2.2.2, ?_, ?_, fun i hi => (hq i hi).2.2.2.2.1, fun i hi => (hq i hi).2.2.2.2.2, fun i hi => (hq i hi).2.1⟩
    · by_cases h0 : len = 0
      · exact .inl h0
      · obtain ⟨b, off, spot⟩ := y
        have hc0 := (hcell 0 (by omega)).1
        have hspot : spot = none := by simpa [Addr.add] using World.cell?_spot hc0
        subst hspot
        have ea : ∀ i, (⟨b, off, none⟩ : Addr).add i = ⟨b, off + i, none⟩ := by intro i; unfold Addr.add; split <;> simp_all
        refine .inr ⟨b, off, rfl, fun i hi => ?_⟩
        obtain ⟨c0, c1, _, _⟩ := hcell i (by omega)
        obtain ⟨q0, _, q1, q2, _⟩ := hq i hi
        rw [ea] at c0 c1
        exact ⟨by rw [c0, q0], by rw [← q1, ← c1]; rfl, q2⟩
    · have hml : maxLen = 9223372036854775807 := by decide
      omega

end Go.Proofs.Ytpoccjlngbdjlaa

/-
  The law FnExactRunsFault answers true at all runs.
-/
namespace Go.Proofs.Ytpoccjlngbdjlaa
open Go.RowKit
set_option linter.unusedVariables false

set_option maxHeartbeats 400000 in
theorem specRunsFault_any (a : Option Addr) (n c : Nat) (P : Nat → Int) (A : Nat → Option Addr) (C : Nat → Nat) (Z : Nat → List Int) (w : World) (hm : n ≤ 1048576) (hz : ∀ i, i < n → (Z i).length ≤ 1048576) (hr : RunsRead w a n P A C Z) :
    Calls Try.prog 25 #[.slice a n c] w fun e w' => e = .returned (.int .i64 (rfQ n P Z)) ∧ ∃ q, w' = w.drewN q := by
  go_enter Try.func25, Try.ntmps25
  go_wp2_with fail
  refine (l3Fault_any a n c P A C Z _ hm hz hr).mono ?_
  rintro e w' ⟨rfl, q, rfl⟩
  go_wp2_with fail
  go_ret
  exact ⟨rfl, q, rfl⟩

set_option maxHeartbeats 1000000 in
theorem lawRunsFault_any (a : Option Addr) (n c : Nat) (P : Nat → Int) (A : Nat → Option Addr) (C : Nat → Nat) (Z : Nat → List Int) (w : World) (hm : n ≤ 9223372036854775807) (hz : ∀ i, i < n → (Z i).length ≤ 9223372036854775807) (hr : RunsRead w a n P A C Z) :
    Calls Try.prog 5 #[.slice a n c] w fun e w' => e = .returned (.bool true) ∧ Below w.heap.size w w' := by
  have HR : Hid (RunsRead w a n P A C Z) := hr
  obtain ⟨q, hq⟩ : ∃ q, q = rfQ n P Z := ⟨_, rfl⟩
  have HQ : Hid (rfQ n P Z = q) := hq.symm
  clear hq hr
  go_enter Try.func5, Try.ntmps5
  go_wp2_with fail
  refine (szRunS_any a n c P A C Z _ hm hz HR.out).mono ?_
  rintro e w1 ⟨⟨r, rfl, hl⟩, g1⟩
  by_cases h0 : r < 0
  · go_wp2_with fail
    go_ret
    exact ⟨rfl, g1⟩
  have hl := hl (by omega)
  have h0 : ¬ (r < 0) := h0
  have HL : Hid (n + took Z n ≤ 1048576) := hl
  have hzl : Hid (∀ i, i < n → (Z i).length ≤ 1048576) := fun i hi => by have := took_one Z i n hi; omega
  have hn : n ≤ 1048576 := by omega
  clear hl hz
  go_wp2_with fail
  refine (toRunS_any a n c P A C Z _ HL.out (HR.out.below g1 (Nat.le_refl _))).mono ?_
  rintro e w2 ⟨rfl, g2, A2, F2, o2⟩
  have g2 : Below w.heap.size w w2 := g1.trans (g2.mono g1.size)
  go_wp2_with fail
  refine (specRunsFault_any _ n n P A2 _ Z _ hn hzl.out o2.reads).mono ?_
  rintro e w3 ⟨rfl, k3, rfl⟩
  rw [HQ.out]
  have g3 := below_draws g2 k3
  generalize w2.drewN k3 = w3 at g3
  clear g2 g1 o2
  go_wp2_with fail
  refine (toRunS_any a n c P A C Z _ HL.out (HR.out.below g3 (Nat.le_refl _))).mono ?_
  rintro e w4 ⟨rfl, g4, A4, F4, o4⟩
  have g4 : Below w.heap.size w w4 := g3.trans (g4.mono g3.size)
  clear g3
  go_wp2_with fail
  refine (implRunsFault_any _ n n P A4 _ Z _ hn hzl.out o4.reads).mono ?_
  rintro e w5 ⟨rfl, g5⟩
  rw [HQ.out]
  have o5 := o4.below g5
  have g5 : Below w.heap.size w w5 := g4.trans (g5.mono g4.size)
  clear g4 o4
  go_wp2_with fail
  refine (toRunS_any a n c P A C Z _ HL.out (HR.out.below g5 (Nat.le_refl _))).mono ?_
  rintro e w6 ⟨rfl, g6, A6, F6, o6⟩
  have o5 := o5.below g6
  have g6 : Below w.heap.size w w6 := g5.trans (g6.mono g5.size)
  go_wp2_with fail
  refine (eqRunS_same _ _ n n n P A4 A6 _ _ Z F4 F6 _ _ _ _ _ HL.out o5 o6).mono ?_
  rintro e w7 ⟨rfl, g7⟩
  have g7 : Below w.heap.size w w7 := g6.trans (g7.mono g6.size)
  clear g6 o5 o6
  go_wp2_with fail
  go_ret
  exact ⟨rfl, g7⟩

theorem lawRunsFault_all (a : Option Addr) (n c : Nat) (P : Nat → Int) (A : Nat → Option Addr) (C : Nat → Nat) (Z : Nat → List Int) (w : World) (h : IsRuns w a n P A C Z) :
    Calls Try.prog 5 #[.slice a n c] w fun e w' => e = .returned (.bool true) ∧ Below w.heap.size w w' := lawRunsFault_any a n c P A C Z w h.ln h.zl h.rd

end Go.Proofs.Ytpoccjlngbdjlaa
