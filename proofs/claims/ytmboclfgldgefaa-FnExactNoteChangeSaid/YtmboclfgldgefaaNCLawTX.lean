/-
  Transactions that came in; the law FnExactTxsFault answers true.
-/
import Derived.Test.YtmboclfgldgefaaNCTxm
import Derived.Test.YtmboclfgldgefaaNCCho

namespace Go.Proofs.Ytmboclfgldgefaa
open Go.ChangeShapes Go.WideShapes Go.RowKit Go.Maps
set_option linter.unusedVariables false
set_option maxRecDepth 20000

instance : Inhabited K2 := ⟨⟨0, 0⟩⟩
instance : Inhabited TxV := ⟨⟨0, [], [], []⟩⟩
theorem rs_of {α : Type} {enc : α → List Value} {k len : Nat} {W : World} {y : Addr} (q : Nat → α) (hne : ∀ x, ∃ u, (enc x)[0]? = some u) (hq : ∀ i, i < len → ∀ j u, (enc (q i))[j]? = some u → W.cell? (y.add (i * k + j)) = some u) : Rs enc k W (some y) ((List.range len).map q) := by
  by_cases h0 : len = 0
  · subst h0; exact .inl rfl
  · obtain ⟨b, off, spot⟩ := y
    obtain ⟨u, hu⟩ := hne (q 0)
    have hc0 := hq 0 (by omega) 0 u hu
    have hspot : spot = none := by simpa [Addr.add] using World.cell?_spot hc0
    subst hspot
    have ea : ∀ i, (⟨b, off, none⟩ : Addr).add i = ⟨b, off + i, none⟩ := by intro i; unfold Addr.add; split <;> simp_all
    refine .inr ⟨b, off, rfl, fun i r hr j u hu => ?_⟩
    obtain ⟨hi, rfl⟩ := list_of_fun q len hr
    have q0 := hq i hi j u hu
    rw [ea, ← Nat.add_assoc] at q0
    exact q0
theorem open_nums {H : Type} {enc : TypeId × Value → H} {W : World} {base : Nat} {held : Bool} {fuel : Nat} {a : Option Addr} {len cap : Nat} {x : DataW H × List MemPlace}
    (h : DataW.trod enc Try.prog W base (fun _ => true) held fuel 102 [.slice a len cap] = some x) : ∃ ms : List Int, ms.length = len ∧ len ≤ maxLen ∧ Rs inE 1 W a ms := by
  have hml : maxLen = 9223372036854775807 := by decide
  rcases Go.Deep.open_slice Try.underlying102 h with ⟨hcs, _⟩ | ⟨y, l, c, m, n, Dd, Pl, hcs, hb, hl, hm, hmm, _, hx⟩
  · simp only [List.cons.injEq, Value.slice.injEq, and_true] at hcs
    obtain ⟨rfl, rfl, rfl⟩ := hcs
    exact ⟨[], rfl, by omega, .inl rfl⟩
  · simp only [List.cons.injEq, Value.slice.injEq, and_true] at hcs
    obtain ⟨rfl, rfl, rfl⟩ := hcs
    simp only [if_true] at hmm
    subst hmm
    have ce : Try.prog.cellsOf 2 = 1 := by kernel_rfl
    have each : ∀ i, i < len → ∃ q : Int, ∀ j u, (inE q)[j]? = some u → W.cell? (y.add (i * 1 + j)) = some u := by
      intro i hi
      obtain ⟨cs', h1, h2⟩ := hx i (by omega)
      rw [ce] at h1
      obtain ⟨_, hlen, hcell⟩ := World.cells?_some h1
      obtain ⟨p, e0, _, _⟩ := DataW.trod_int Try.underlying2 h2
      subst e0
      refine ⟨p, fun j u hu => ?_⟩
      have hj : j < 1 := by
        have := (List.getElem?_eq_some_iff.1 hu).1
        rw [inE_len] at this
        exact this
      have k0 := hcell j (by simpa using hj)
      rw [Go.Deep.add_add] at k0
      rw [k0]
      exact hu
    obtain ⟨q, hq⟩ := Go.Deep.choose_lt each
    exact ⟨(List.range len).map q, by simp, by omega, rs_of q (fun x => ⟨_, rfl⟩) hq⟩
theorem two2 {α : Type} (xs : List α) (h : xs.length = 2) : ∃ a b, xs = [a, b] := by
  match xs, h with
  | [a, b], _ => exact ⟨a, b, rfl⟩
theorem open_keys {H : Type} {enc : TypeId × Value → H} {W : World} {base : Nat} {held : Bool} {fuel : Nat} {a : Option Addr} {len cap : Nat} {x : DataW H × List MemPlace}
    (h : DataW.trod enc Try.prog W base (fun _ => true) held fuel 103 [.slice a len cap] = some x) : ∃ ls : List K2, ls.length = len ∧ len ≤ maxLen ∧ Rs kyE 2 W a ls := by
  have hml : maxLen = 9223372036854775807 := by decide
  rcases Go.Deep.open_slice Try.underlying103 h with ⟨hcs, _⟩ | ⟨y, l, c, m, n, Dd, Pl, hcs, hb, hl, hm, hmm, _, hx⟩
  · simp only [List.cons.injEq, Value.slice.injEq, and_true] at hcs
    obtain ⟨rfl, rfl, rfl⟩ := hcs
    exact ⟨[], rfl, by omega, .inl rfl⟩
  · simp only [List.cons.injEq, Value.slice.injEq, and_true] at hcs
    obtain ⟨rfl, rfl, rfl⟩ := hcs
    simp only [if_true] at hmm
    subst hmm
    have ce : Try.prog.cellsOf 187 = 2 := by kernel_rfl
    have each : ∀ i, i < len → ∃ q : K2, ∀ j u, (kyE q)[j]? = some u → W.cell? (y.add (i * 2 + j)) = some u := by
      intro i hi
      obtain ⟨cs', h1, h2⟩ := hx i (by omega)
      rw [ce] at h1
      obtain ⟨_, hlen, hcell⟩ := World.cells?_some h1
      obtain ⟨xs, k, hk, hxy, _, hxl, hf⟩ := DataW.trod_struct Try.underlying187 h2
      have hx2 : xs.length = 2 := hxl
      clear hxl
      obtain ⟨y0, y1, rfl⟩ := two2 xs hx2
      obtain ⟨v0, v1, rfl⟩ := two2 cs' hlen
      have g0 := hf 0 _ rfl
      have g1 := hf 1 _ rfl
      have c2 : Try.prog.cellsOf 2 = 1 := by kernel_rfl
      simp [c2] at g0 g1
      obtain ⟨t0, e0, _, _⟩ := DataW.trod_int Try.underlying2 g0
      obtain ⟨t1, e1, _, _⟩ := DataW.trod_int Try.underlying2 g1
      simp only [List.cons.injEq, and_true] at e0 e1
      subst e0 e1
      refine ⟨⟨t0, t1⟩, fun j u hu => ?_⟩
      have hj : j < 2 := by
        have := (List.getElem?_eq_some_iff.1 hu).1
        rw [kyE_len] at this
        exact this
      have k0 := hcell j (by omega)
      rw [Go.Deep.add_add] at k0
      rw [k0]
      exact hu
    obtain ⟨q, hq⟩ := Go.Deep.choose_lt each
    exact ⟨(List.range len).map q, by simp, by omega, rs_of q (fun x => ⟨_, rfl⟩) hq⟩
theorem slice_form {H : Type} {enc : TypeId × Value → H} {W : World} {base : Nat} {held : Bool} {fuel : Nat} {T E : TypeId} {v : Value} {x : DataW H × List MemPlace} (hu : Try.prog.underlying T = some (.slice E))
    (h : DataW.trod enc Try.prog W base (fun _ => true) held fuel T [v] = some x) : ∃ a l c, v = .slice a l c := by
  rcases Go.Deep.open_slice hu h with ⟨hcs, _⟩ | ⟨y, l, c, m, n, Dd, Pl, hcs, _⟩
  · simp only [List.cons.injEq, and_true] at hcs
    exact ⟨_, _, _, hcs⟩
  · simp only [List.cons.injEq, and_true] at hcs
    exact ⟨_, _, _, hcs⟩
theorem open_txs {H : Type} {enc : TypeId × Value → H} {W : World} {base : Nat} {held : Bool} {fuel : Nat} {a : Option Addr} {len cap : Nat} {x : DataW H × List MemPlace}
    (h : DataW.trod enc Try.prog W base (fun _ => true) held fuel 39 [.slice a len cap] = some x) : ∃ xs, IsTxs W a len xs := by
  have hml : maxLen = 9223372036854775807 := by decide
  rcases Go.Deep.open_slice Try.underlying39 h with ⟨hcs, _⟩ | ⟨y, l, c, m, n, Dd, Pl, hcs, hb, hl, hm, hmm, _, hx⟩
  · simp only [List.cons.injEq, Value.slice.injEq, and_true] at hcs
    obtain ⟨rfl, rfl, rfl⟩ := hcs
    exact ⟨[], .inl rfl, rfl, by omega, fun r hr => by simp at hr⟩
  · simp only [List.cons.injEq, Value.slice.injEq, and_true] at hcs
    obtain ⟨rfl, rfl, rfl⟩ := hcs
    simp only [if_true] at hmm
    subst hmm
    have ce : Try.prog.cellsOf 105 = 4 := by kernel_rfl
    have each : ∀ i, i < len → ∃ q : (TxV × (Option Addr × Nat) × (Option Addr × Nat) × (Option Addr × Nat)), (W.cell? (y.add (i * 4)) = some (.int .i64 q.1.id) ∧ W.cell? (y.add (i * 4 + 1)) = some (.slice q.2.1.1 q.1.u.length q.2.1.2) ∧ W.cell? (y.add (i * 4 + 2)) = some (.slice q.2.2.1.1 q.1.m.length q.2.2.1.2) ∧ W.cell? (y.add (i * 4 + 3)) = some (.slice q.2.2.2.1 q.1.l.length q.2.2.2.2)) ∧ Rs chE 10 W q.2.1.1 q.1.u ∧ Rs inE 1 W q.2.2.1.1 q.1.m ∧ Rs kyE 2 W q.2.2.2.1 q.1.l ∧ TxOk maxLen q.1 := by
      intro i hi
      obtain ⟨cs', h1, h2⟩ := hx i (by omega)
      rw [ce] at h1
      obtain ⟨_, hlen, hcell⟩ := World.cells?_some h1
      obtain ⟨xs, k, hk, hxy, _, hxl, hf⟩ := DataW.trod_struct Try.underlying105 h2
      have hx4 : xs.length = 4 := hxl
      clear hxl
      obtain ⟨y0, y1, y2, y3, rfl⟩ := four xs hx4
      obtain ⟨v0, v1, v2, v3, rfl⟩ := four cs' hlen
      have g0 := hf 0 _ rfl
      have g1 := hf 1 _ rfl
      have g2 := hf 2 _ rfl
      have g3 := hf 3 _ rfl
      have c2 : Try.prog.cellsOf 2 = 1 := by kernel_rfl
      have d1 : Try.prog.cellsOf 101 = 1 := by kernel_rfl
      have d2 : Try.prog.cellsOf 102 = 1 := by kernel_rfl
      have d3 : Try.prog.cellsOf 103 = 1 := by kernel_rfl
      simp [c2, d1, d2, d3] at g0 g1 g2 g3
      obtain ⟨t0, e0, _, _⟩ := DataW.trod_int Try.underlying2 g0
      simp only [List.cons.injEq, and_true] at e0
      subst e0
      obtain ⟨ua, un, uc, rfl⟩ := slice_form Try.underlying101 g1
      obtain ⟨ma, mn, mc, rfl⟩ := slice_form Try.underlying102 g2
      obtain ⟨la, ln, lc, rfl⟩ := slice_form Try.underlying103 g3
      obtain ⟨us, hu⟩ := open_chgs g1
      obtain ⟨ms, hm1, hm2, hm3⟩ := open_nums g2
      obtain ⟨ls, hl1, hl2, hl3⟩ := open_keys g3
      have hu1 := hu.eq
      subst hu1 hm1 hl1
      have k0 := hcell 0 (by omega)
      have k1 := hcell 1 (by omega)
      have k2 := hcell 2 (by omega)
      have k3 := hcell 3 (by omega)
      rw [Go.Deep.add_add] at k0 k1 k2 k3
      exact ⟨(⟨t0, us, ms, ls⟩, (ua, uc), (ma, mc), (la, lc)), ⟨k0, k1, k2, k3⟩, hu.rd, hm3, hl3, by have := hu.ln; dsimp only; omega, hu.sz, hm2, hl2⟩
    obtain ⟨q, hq⟩ := Go.Deep.choose_lt each
    refine ⟨(List.range len).map (fun i => (q i).1), ?_, by simp, by omega, ?_⟩
    · by_cases h0 : len = 0
      · subst h0; exact .inl rfl
      · obtain ⟨b, off, spot⟩ := y
        have hc0 := (hq 0 (by omega)).1.1
        have hspot : spot = none := by simpa [Addr.add] using World.cell?_spot hc0
        subst hspot
        have ea : ∀ i, (⟨b, off, none⟩ : Addr).add i = ⟨b, off + i, none⟩ := by intro i; unfold Addr.add; split <;> simp_all
        refine .inr ⟨b, off, rfl, fun i r hr => ?_⟩
        obtain ⟨hi, rfl⟩ := list_of_fun (fun i => (q i).1) len hr
        obtain ⟨⟨k0, k1, k2, k3⟩, r1, r2, r3, _⟩ := hq i hi
        rw [ea] at k0 k1 k2 k3
        rw [← Nat.add_assoc] at k1 k2 k3
        exact ⟨_, _, _, _, _, _, k0, k1, k2, k3, r1, r2, r3⟩
    · intro r hr
      obtain ⟨i, hi, rfl⟩ := List.mem_map.1 hr
      exact (hq i (by simpa using hi)).2.2.2.2

end Go.Proofs.Ytmboclfgldgefaa
