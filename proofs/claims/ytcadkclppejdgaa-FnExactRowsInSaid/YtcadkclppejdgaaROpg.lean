/-
  What came in, opened: pages. The law FnExactPagesFault answers true.
-/
import Derived.Test.YtcadkclppejdgaaRPgs
import Derived.Test.YtcadkclppejdgaaRMfa
import Derived.Deep.SlicePairs
import Derived.OpenShut
import Derived.ProofKit

namespace Go.Proofs.Ytcadkclppejdgaa
open Go.ChangeShapes Go.WideShapes Go.RowKit
set_option linter.unusedVariables false

theorem open_bytes_one {H : Type} {enc : TypeId × Value → H} {W : World} {base : Nat} {held : Bool} {fuel : Nat} {v : Value} {x : DataW H × List MemPlace}
    (h : DataW.trod enc Try.prog W base (fun _ => true) held fuel 63 [v] = some x) : ∃ a zs c, v = .slice a zs.length c ∧ zs.length ≤ c ∧ zs.length ≤ 9223372036854775807 ∧ Reads W a zs ∧ ∀ z ∈ zs, 0 ≤ z ∧ z ≤ 255 := by
  have hml : maxLen = 9223372036854775807 := by decide
  rcases open_ints Try.underlying63 Try.underlying5 (by kernel_rfl) h with ⟨hcs, _⟩ | ⟨u, l', c', zs, hcs, _, hl', hm', hz, _, hc', hwz⟩
  · simp only [List.cons.injEq, and_true] at hcs
    exact ⟨none, [], 0, hcs, Nat.le_refl _, by simp, .inl rfl, fun z hz => by simp at hz⟩
  · simp only [List.cons.injEq, and_true] at hcs
    have hrow : IsRow .u8 W (some u) l' c' zs := .inr ⟨u, rfl, hl', hm', by simpa using hz, hc', hwz⟩
    obtain ⟨h1, h2, h3, h4⟩ := isRow_reads hrow
    exact ⟨some u, zs.take l', c', by rw [hcs]; simp only [h1], by rw [h1]; exact h2, by rw [h1]; omega, h3, h4⟩

theorem open_pages {H : Type} {enc : TypeId × Value → H} {W : World} {base : Nat} {held : Bool} {fuel : Nat} {a : Option Addr} {len cap : Nat} {x : DataW H × List MemPlace}
    (h : DataW.trod enc Try.prog W base (fun _ => true) held fuel 22 [.slice a len cap] = some x) : ∃ ps, IsPages W a len ps := by
  have hml : maxLen = 9223372036854775807 := by decide
  rcases Go.Deep.open_slice Try.underlying22 h with ⟨hcs, _⟩ | ⟨y, l, c, m, n, Dd, Pl, hcs, hb, hl, hm, hmm, _, hx⟩
  · simp only [List.cons.injEq, Value.slice.injEq, and_true] at hcs
    obtain ⟨rfl, rfl, rfl⟩ := hcs
    exact ⟨[], .inl rfl, rfl, by omega, fun r hr => by simp at hr⟩
  · simp only [List.cons.injEq, Value.slice.injEq, and_true] at hcs
    obtain ⟨rfl, rfl, rfl⟩ := hcs
    simp only [if_true] at hmm
    subst hmm
    have ce : Try.prog.cellsOf 63 = 1 := by kernel_rfl
    have each : ∀ i, i < len → ∃ q : Option Addr × List Int × Nat, W.cell? (y.add i) = some (.slice q.1 q.2.1.length q.2.2) ∧ q.2.1.length ≤ q.2.2 ∧ q.2.1.length ≤ 9223372036854775807 ∧ Reads W q.1 q.2.1 ∧ ∀ z ∈ q.2.1, 0 ≤ z ∧ z ≤ 255 := by
      intro i hi
      obtain ⟨cs', h1, h2⟩ := hx i (by omega)
      rw [ce] at h1
      obtain ⟨_, hlen, hcell⟩ := World.cells?_some h1
      obtain ⟨v, rfl⟩ : ∃ v, cs' = [v] := by
        match cs', hlen with
        | [v], _ => exact ⟨v, rfl⟩
      obtain ⟨a', zs, c', rfl, h3, h4, h5, h6⟩ := open_bytes_one h2
      have k0 := hcell 0 (by omega)
      rw [Go.Deep.add_add] at k0
      exact ⟨(a', zs, c'), by simpa using k0, h3, h4, h5, h6⟩
    obtain ⟨q, hq⟩ := Go.Deep.choose_lt each
    refine ⟨(List.range len).map (fun i => (q i).2.1), ?_, by simp, by omega, ?_⟩
    · by_cases h0 : len = 0
      · subst h0; exact .inl rfl
      · obtain ⟨b, off, spot⟩ := y
        have hc0 := (hq 0 (by omega)).1
        have hspot : spot = none := by simpa [Addr.add] using World.cell?_spot hc0
        subst hspot
        have ea : ∀ i, (⟨b, off, none⟩ : Addr).add i = ⟨b, off + i, none⟩ := by intro i; unfold Addr.add; split <;> simp_all
        refine .inr ⟨b, off, rfl, fun i r hr => ?_⟩
        obtain ⟨hi, rfl⟩ := list_of_fun (fun i => (q i).2.1) len hr
        obtain ⟨q0, q1, _, q3, _⟩ := hq i hi
        rw [ea] at q0
        exact ⟨_, _, q0, q1, q3⟩
    · intro r hr
      obtain ⟨i, hi, rfl⟩ := List.mem_map.1 hr
      obtain ⟨_, _, q2, _, q4⟩ := hq i (by simpa using hi)
      exact ⟨q2, q4⟩

set_option maxHeartbeats 1000000 in
theorem lawPagesFault_any (a : Option Addr) (n c : Nat) (ps : List (List Int)) (w : World) (h : IsPages w a n ps) :
    Calls Try.prog 3 #[.slice a n c] w fun e w' => e = .returned (.bool true) ∧ Below w.heap.size w w' := by
  have hm := h.ln
  have HI : Hid (IsPages w a n ps) := h
  obtain ⟨q, hq⟩ : ∃ q, q = viewQ ps := ⟨_, rfl⟩
  have HQ : Hid (viewQ ps = q) := hq.symm
  clear hq h
  go_enter Try.func3, Try.ntmps3
  go_wp2_with fail
  refine (szByteSS_any a ps n c _ 1048576 HI.out (by omega) (by omega)).mono ?_
  rintro e w1 ⟨⟨r, rfl, hr1, hl⟩, hw1⟩
  subst w1
  by_cases h0 : r < 0
  · go_wp2_with fail
    go_ret
    exact ⟨rfl, Below.refl _ _⟩
  obtain ⟨hn, hpo⟩ := hl (by omega)
  have HP : Hid (PgOk ps) := hpo
  have HN : Hid (ps.length = n) := HI.out.eq
  have HR : Hid (PgRead w a ps) := HI.out.rd
  have h0 : ¬ (r < 0) := h0
  clear hl hpo HI
  go_wp2_with fail
  refine (toByteSS_any a ps n c _ HN.out hn HP.out HR.out).mono ?_
  rintro e w2 ⟨rfl, g2, hl2, F2, o2⟩
  have r2 := o2.reads HN.out
  clear o2 hl2 F2
  go_wp2_with fail
  refine (specPagesFault_any _ ps n n _ HN.out hm HP.out r2).mono ?_
  rintro e w3 ⟨rfl, g3⟩
  rw [HQ.out]
  have g3 : Below w.heap.size w w3 := g2.trans (g3.mono g2.size)
  clear g2 r2
  go_wp2_with fail
  refine (toByteSS_any a ps n c _ HN.out hn HP.out (HR.out.below g3 (Nat.le_refl _))).mono ?_
  rintro e w4 ⟨rfl, g4, hl4, F4, o4⟩
  have g4 : Below w.heap.size w w4 := g3.trans (g4.mono g3.size)
  have r4 := o4.reads HN.out
  generalize w3.heap.size = b4 at r4 o4 hl4 ⊢
  clear g3
  go_wp2_with fail
  refine (implPagesFault_any _ ps n n _ HN.out hm HP.out r4).mono ?_
  rintro e w5 ⟨rfl, g5⟩
  rw [HQ.out]
  have o5 := o4.below hl4 g5
  have hl5 := Nat.lt_of_lt_of_le hl4 g5.size
  have g5 : Below w.heap.size w w5 := g4.trans (g5.mono g4.size)
  clear g4 o4 r4 hl4
  go_wp2_with fail
  refine (toByteSS_any a ps n c _ HN.out hn HP.out (HR.out.below g5 (Nat.le_refl _))).mono ?_
  rintro e w6 ⟨rfl, g6, hl6, F6, o6⟩
  have o5 := o5.below hl5 g6
  have hl5 := Nat.lt_of_lt_of_le hl5 g6.size
  have g6 : Below w.heap.size w w6 := g5.trans (g6.mono g5.size)
  generalize w5.heap.size = b6 at o6 hl6 ⊢
  go_wp2_with fail
  refine (eqByteSS_same _ _ ps n F4 F6 _ HN.out hm HP.out o5 o6 hl5 hl6).mono ?_
  rintro e w7 ⟨rfl, g7⟩
  have g7 : Below w.heap.size w w7 := g6.trans (g7.mono g6.size)
  clear g6 o5 o6
  go_wp2_with fail
  go_ret
  exact ⟨rfl, g7⟩

end Go.Proofs.Ytcadkclppejdgaa
