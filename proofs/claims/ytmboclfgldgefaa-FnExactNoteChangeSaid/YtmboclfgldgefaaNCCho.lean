/-
  What came in, opened: a slice of changes.
-/
import Derived.Test.YtmboclfgldgefaaNCCht
import Derived.Test.YtmboclfgldgefaaNCRdw

namespace Go.Proofs.Ytmboclfgldgefaa
open Go.ChangeShapes Go.WideShapes Go.RowKit
set_option linter.unusedVariables false

structure IsChgs (w : World) (a : Option Addr) (len : Nat) (cs : List Chg) : Prop where
  rd : Rs chE 10 w a cs
  eq : cs.length = len
  ln : len ≤ 9223372036854775807
  sz : ∀ x ∈ cs, x.b.s.size ≤ maxLen ∧ x.a.s.size ≤ maxLen

instance : Inhabited Chg := ⟨⟨false, default, false, default⟩⟩
theorem ten {α : Type} (xs : List α) (h : xs.length = 10) : ∃ a b c d e f g h' i j, xs = [a, b, c, d, e, f, g, h', i, j] := by
  match xs, h with
  | [a, b, c, d, e, f, g, h', i, j], _ => exact ⟨a, b, c, d, e, f, g, h', i, j, rfl⟩
theorem open_row4 {H : Type} {enc : TypeId × Value → H} {W : World} {base : Nat} {held : Bool} {fuel : Nat} {v0 v1 v2 v3 : Value} {x : DataW H × List MemPlace}
    (h2 : DataW.trod enc Try.prog W base (fun _ => true) held fuel 52 [v0, v1, v2, v3] = some x) : ∃ q : Rw, v0 = .int .i64 q.t ∧ v1 = .int .i64 q.k ∧ v2 = .int .i64 q.v ∧ v3 = .string q.s ∧ q.s.size ≤ maxLen := by
  obtain ⟨xs, k, hk, hxy, _, hxl, hf⟩ := DataW.trod_struct Try.underlying52 h2
  have hx4 : xs.length = 4 := hxl
  clear hxl
  obtain ⟨y0, y1, y2, y3, rfl⟩ := four xs hx4
  have g0 := hf 0 _ rfl
  have g1 := hf 1 _ rfl
  have g2 := hf 2 _ rfl
  have g3 := hf 3 _ rfl
  have c2 : Try.prog.cellsOf 2 = 1 := by kernel_rfl
  have c9 : Try.prog.cellsOf 9 = 1 := by kernel_rfl
  simp [c2, c9] at g0 g1 g2 g3
  obtain ⟨t0, e0, _, w0⟩ := DataW.trod_int Try.underlying2 g0
  obtain ⟨t1, e1, _, w1⟩ := DataW.trod_int Try.underlying2 g1
  obtain ⟨t2, e2, _, w2⟩ := DataW.trod_int Try.underlying2 g2
  obtain ⟨s, e3, _, hs⟩ := DataW.trod_string Try.underlying9 g3
  simp only [List.cons.injEq, and_true] at e0 e1 e2 e3
  subst e0 e1 e2 e3
  exact ⟨⟨t0, t1, t2, s⟩, rfl, rfl, rfl, rfl, hs⟩

theorem open_chgs {H : Type} {enc : TypeId × Value → H} {W : World} {base : Nat} {held : Bool} {fuel : Nat} {a : Option Addr} {len cap : Nat} {x : DataW H × List MemPlace}
    (h : DataW.trod enc Try.prog W base (fun _ => true) held fuel 101 [.slice a len cap] = some x) : ∃ cs, IsChgs W a len cs := by
  have hml : maxLen = 9223372036854775807 := by decide
  rcases Go.Deep.open_slice Try.underlying101 h with ⟨hcs, _⟩ | ⟨y, l, c, m, n, Dd, Pl, hcs, hb, hl, hm, hmm, _, hx⟩
  · simp only [List.cons.injEq, Value.slice.injEq, and_true] at hcs
    obtain ⟨rfl, rfl, rfl⟩ := hcs
    exact ⟨[], .inl rfl, rfl, by omega, fun r hr => by simp at hr⟩
  · simp only [List.cons.injEq, Value.slice.injEq, and_true] at hcs
    obtain ⟨rfl, rfl, rfl⟩ := hcs
    simp only [if_true] at hmm
    subst hmm
    have ce : Try.prog.cellsOf 54 = 10 := by kernel_rfl
    have each : ∀ i, i < len → ∃ q : Chg, (∀ j u, (chE q)[j]? = some u → W.cell? (y.add (i * 10 + j)) = some u) ∧ q.b.s.size ≤ maxLen ∧ q.a.s.size ≤ maxLen := by
      intro i hi
      obtain ⟨cs', h1, h2⟩ := hx i (by omega)
      rw [ce] at h1
      obtain ⟨_, hlen, hcell⟩ := World.cells?_some h1
      obtain ⟨xs, k, hk, hxy, _, hxl, hf⟩ := DataW.trod_struct Try.underlying54 h2
      have hx4 : xs.length = 4 := hxl
      clear hxl
      obtain ⟨y0, y1, y2, y3, rfl⟩ := four xs hx4
      obtain ⟨v0, v1, v2, v3, v4, v5, v6, v7, v8, v9, rfl⟩ := ten cs' hlen
      have g0 := hf 0 _ rfl
      have g1 := hf 1 _ rfl
      have g2 := hf 2 _ rfl
      have g3 := hf 3 _ rfl
      have c4 : Try.prog.cellsOf 4 = 1 := by kernel_rfl
      have c85 : Try.prog.cellsOf 52 = 4 := by kernel_rfl
      simp [c4, c85] at g0 g1 g2 g3
      obtain ⟨t0, e0, _⟩ := DataW.trod_bool Try.underlying4 g0
      obtain ⟨q1, a1, a2, a3, a4, a5⟩ := open_row4 g1
      obtain ⟨t2, e2, _⟩ := DataW.trod_bool Try.underlying4 g2
      obtain ⟨q3, d1, d2, d3, d4, d5⟩ := open_row4 g3
      simp only [List.cons.injEq, and_true] at e0 e2
      subst e0 e2 a1 a2 a3 a4 d1 d2 d3 d4
      refine ⟨⟨t0, q1, t2, q3⟩, fun j u hu => ?_, a5, d5⟩
      have hj : j < 10 := by
        have := (List.getElem?_eq_some_iff.1 hu).1
        rw [chE_len] at this
        exact this
      have k0 := hcell j (by omega)
      rw [Go.Deep.add_add] at k0
      rw [k0]
      exact hu
    obtain ⟨q, hq⟩ := Go.Deep.choose_lt each
    refine ⟨(List.range len).map q, ?_, by simp, by omega, ?_⟩
    · by_cases h0 : len = 0
      · subst h0; exact .inl rfl
      · obtain ⟨b, off, spot⟩ := y
        have hc0 := (hq 0 (by omega)).1 0 _ rfl
        have hspot : spot = none := by simpa [Addr.add] using World.cell?_spot hc0
        subst hspot
        have ea : ∀ i, (⟨b, off, none⟩ : Addr).add i = ⟨b, off + i, none⟩ := by intro i; unfold Addr.add; split <;> simp_all
        refine .inr ⟨b, off, rfl, fun i r hr j u hu => ?_⟩
        obtain ⟨hi, rfl⟩ := list_of_fun q len hr
        have q0 := (hq i hi).1 j u hu
        rw [ea, ← Nat.add_assoc] at q0
        exact q0
    · intro r hr
      obtain ⟨i, hi, rfl⟩ := List.mem_map.1 hr
      exact (hq i (by simpa using hi)).2

end Go.Proofs.Ytmboclfgldgefaa
