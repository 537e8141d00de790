/-
  What came in, opened: a slice of rows.
-/
import Derived.Test.YtmboclfgldgefaaNCRwg
import Derived.Deep.SlicePairs
import Derived.OpenShut
import Derived.ProofKit
import Derived.Maps.AppendAt

namespace Go.Proofs.Ytmboclfgldgefaa
open Go.ChangeShapes Go.WideShapes Go.RowKit
set_option linter.unusedVariables false

structure IsRows (w : World) (a : Option Addr) (len : Nat) (rs : List Rw) : Prop where
  rd : Rs rwE 4 w a rs
  eq : rs.length = len
  ln : len ≤ 9223372036854775807
  sz : ∀ r ∈ rs, r.s.size ≤ maxLen
  wf : ∀ r ∈ rs, (Lit.int .i64 r.t).wf = true ∧ (Lit.int .i64 r.k).wf = true ∧ (Lit.int .i64 r.v).wf = true

instance : Inhabited Rw := ⟨⟨0, 0, 0, ⟨#[]⟩⟩⟩
theorem four {α : Type} (xs : List α) (h : xs.length = 4) : ∃ a b c d, xs = [a, b, c, d] := by
  match xs, h with
  | [a, b, c, d], _ => exact ⟨a, b, c, d, rfl⟩

theorem list_of_fun {α : Type} (q : Nat → α) (n : Nat) {i : Nat} {r : α} (h : ((List.range n).map q)[i]? = some r) : i < n ∧ r = q i := by
  rw [List.getElem?_map] at h
  cases e : (List.range n)[i]? with
  | none => rw [e] at h; simp at h
  | some m =>
    rw [e] at h
    simp at h
    obtain ⟨hl, hm⟩ := List.getElem?_eq_some_iff.1 e
    simp at hl hm
    exact ⟨hl, by rw [← h, ← hm]⟩

theorem open_rows {H : Type} {enc : TypeId × Value → H} {W : World} {base : Nat} {held : Bool} {fuel : Nat} {a : Option Addr} {len cap : Nat} {x : DataW H × List MemPlace}
    (h : DataW.trod enc Try.prog W base (fun _ => true) held fuel 38 [.slice a len cap] = some x) : ∃ rs, IsRows W a len rs := by
  have hml : maxLen = 9223372036854775807 := by decide
  rcases Go.Deep.open_slice Try.underlying38 h with ⟨hcs, _⟩ | ⟨y, l, c, m, n, Dd, Pl, hcs, hb, hl, hm, hmm, _, hx⟩
  · simp only [List.cons.injEq, Value.slice.injEq, and_true] at hcs
    obtain ⟨rfl, rfl, rfl⟩ := hcs
    exact ⟨[], .inl rfl, rfl, by omega, fun r hr => by simp at hr, fun r hr => by simp at hr⟩
  · simp only [List.cons.injEq, Value.slice.injEq, and_true] at hcs
    obtain ⟨rfl, rfl, rfl⟩ := hcs
    simp only [if_true] at hmm
    subst hmm
    have ce : Try.prog.cellsOf 52 = 4 := by kernel_rfl
    have each : ∀ i, i < len → ∃ q : Rw, W.cell? (y.add (i * 4)) = some (.int .i64 q.t) ∧ W.cell? (y.add (i * 4 + 1)) = some (.int .i64 q.k) ∧ W.cell? (y.add (i * 4 + 2)) = some (.int .i64 q.v) ∧ W.cell? (y.add (i * 4 + 3)) = some (.string q.s) ∧ q.s.size ≤ maxLen ∧ (Lit.int .i64 q.t).wf = true ∧ (Lit.int .i64 q.k).wf = true ∧ (Lit.int .i64 q.v).wf = true := by
      intro i hi
      obtain ⟨cs', h1, h2⟩ := hx i (by omega)
      rw [ce] at h1
      obtain ⟨_, hlen, hcell⟩ := World.cells?_some h1
      obtain ⟨xs, k, hk, hxy, _, hxl, hf⟩ := DataW.trod_struct Try.underlying52 h2
      have hx4 : xs.length = 4 := hxl
      clear hxl
      obtain ⟨y0, y1, y2, y3, rfl⟩ := four xs hx4
      obtain ⟨v0, v1, v2, v3, rfl⟩ := four cs' hlen
      have g0 := hf 0 _ rfl
      have g1 := hf 1 _ rfl
      have g2 := hf 2 _ rfl
      have g3 := hf 3 _ rfl
      have c2 : Try.prog.cellsOf 2 = 1 := by kernel_rfl
      have c9 : Try.prog.cellsOf 9 = 1 := by kernel_rfl
      simp [c2, c9] at g0 g1 g2 g3
      obtain ⟨t0, e0, _, w0⟩ := DataW.trod_int Try.underlying2 g0
      obtain ⟨t1, e1, _, w1⟩ := DataW.trod_int Try.underlying2 g1
      obtain ⟨t2, e2, _, w2⟩ := DataW.trod_int Try.underlying2 g2
      obtain ⟨s, e3, _, hs⟩ := DataW.trod_string Try.underlying9 g3
      simp only [List.cons.injEq, and_true] at e0 e1 e2 e3
      subst e0 e1 e2 e3
      have k0 := hcell 0 (by omega)
      have k1 := hcell 1 (by omega)
      have k2 := hcell 2 (by omega)
      have k3 := hcell 3 (by omega)
      rw [Go.Deep.add_add] at k0 k1 k2 k3
      exact ⟨⟨t0, t1, t2, s⟩, by simpa using k0, by simpa using k1, by simpa using k2, by simpa using k3, hs, w0, w1, w2⟩
    obtain ⟨q, hq⟩ := Go.Deep.choose_lt each
    refine ⟨(List.range len).map q, ?_, by simp, by omega, ?_, ?_⟩
    · by_cases h0 : len = 0
      · subst h0; exact .inl rfl
      · obtain ⟨b, off, spot⟩ := y
        have hc0 := (hq 0 (by omega)).1
        have hspot : spot = none := by simpa [Addr.add] using World.cell?_spot hc0
        subst hspot
        have ea : ∀ i, (⟨b, off, none⟩ : Addr).add i = ⟨b, off + i, none⟩ := by intro i; unfold Addr.add; split <;> simp_all
        refine .inr ⟨b, off, rfl, fun i r hr => ?_⟩
        obtain ⟨hi, rfl⟩ := list_of_fun q len hr
        obtain ⟨q0, q1, q2, q3, _⟩ := hq i hi
        rw [ea] at q0 q1 q2 q3
        refine RowC.cells (o := off + i * 4) ⟨q0, ?_, ?_, ?_⟩
        · rw [Nat.add_assoc]; exact q1
        · rw [Nat.add_assoc]; exact q2
        · rw [Nat.add_assoc]; exact q3
    · intro r hr
      obtain ⟨i, hi, rfl⟩ := List.mem_map.1 hr
      exact (hq i (by simpa using hi)).2.2.2.2.1
    · intro r hr
      obtain ⟨i, hi, rfl⟩ := List.mem_map.1 hr
      exact (hq i (by simpa using hi)).2.2.2.2.2

end Go.Proofs.Ytmboclfgldgefaa

/-
  Slices of structs that grow: plain facts of memory.
-/
namespace Go.Proofs.Ytmboclfgldgefaa
open Go.RowKit
set_option linter.unusedVariables false

theorem ownsRow_nil (w : World) (base e size : Nat) : w.ownsRow base e size (.slice none 0 0) 0 [] := ⟨by simp, .inl ⟨rfl, rfl⟩⟩

theorem ownsRow_ne {w : World} {base e size n g : Nat} {v : Value} {xs : List Value} {cs : Array Value} {e' : Nat} (h : w.ownsRow base e size v n xs) (hg : w.heap[g]? = some (.cells cs e')) (hne : e ≠ e') : v.ownBlock ≠ some g := by
  obtain ⟨_, ⟨rfl, _⟩ | ⟨g', cap, cur, rfl, _, hc, _⟩⟩ := h
  · simp [Value.ownBlock]
  · intro e1
    simp [Value.ownBlock] at e1
    subst e1
    rw [hc] at hg
    simp at hg
    exact hne hg.2

theorem ownsRow_below {w w' : World} {base e size n : Nat} {v : Value} {xs : List Value} (h : w.ownsRow base e size v n xs) (hb : Below w.heap.size w w') : w'.ownsRow base e size v n xs := by
  obtain ⟨hl, h1 | ⟨g, cap, cur, rfl, hbb, hc, r⟩⟩ := h
  · exact ⟨hl, .inl h1⟩
  · exact ⟨hl, .inr ⟨g, cap, cur, rfl, hbb, (hb.block g (Array.getElem?_eq_some_iff.1 hc).1).trans hc, r⟩⟩

theorem ownsRow_base {w : World} {base base' e size n : Nat} {v : Value} {xs : List Value} (h : w.ownsRow base e size v n xs) (hb : base' ≤ base) : w.ownsRow base' e size v n xs := by
  obtain ⟨hl, h1 | ⟨g, cap, cur, rfl, hbb, r⟩⟩ := h
  · exact ⟨hl, .inl h1⟩
  · exact ⟨hl, .inr ⟨g, cap, cur, rfl, Nat.le_trans hb hbb, r⟩⟩

theorem cells_new (w : World) (vs : List Value) (t : TypeId) : ∀ j u, vs[j]? = some u → (w.alloc (.cells vs.toArray t)).cell? ((⟨w.heap.size, 0, none⟩ : Addr).add j) = some u := by
  intro j u hu
  have ea : (⟨w.heap.size, 0, none⟩ : Addr).add j = ⟨w.heap.size, j, none⟩ := by unfold Addr.add; split <;> simp_all
  rw [ea]
  unfold World.cell?
  simp only [heap_alloc_new]
  simpa using hu

theorem take_snoc {α : Type} {l : List α} {j : Nat} {z : α} (h : l[j]? = some z) : l.take (j + 1) = l.take j ++ [z] := by
  obtain ⟨hl, e⟩ := List.getElem?_eq_some_iff.1 h
  rw [← e]; exact List.take_succ_eq_append_getElem hl

theorem drop_cons {α : Type} {l : List α} {j : Nat} {z : α} (h : l[j]? = some z) : l.drop j = z :: l.drop (j + 1) := by
  obtain ⟨hl, e⟩ := List.getElem?_eq_some_iff.1 h
  rw [← e]; exact List.drop_eq_getElem_cons hl

theorem at_lt' {α : Type} {rs : List α} {i : Nat} (h : i < rs.length) : ∃ r, rs[i]? = some r := ⟨rs[i], List.getElem?_eq_getElem h⟩

theorem rs_one {α : Type} {enc : α → List Value} {k : Nat} (w : World) (y : α) (t : TypeId) : Rs enc k (w.alloc (.cells (enc y).toArray t)) (some ⟨w.heap.size, 0, none⟩) [y] := by
  refine .inr ⟨_, 0, rfl, fun i z hz j u hu => ?_⟩
  have hi : i = 0 := by
    have := (List.getElem?_eq_some_iff.1 hz).1
    simp at this; exact this
  subst hi
  simp at hz
  subst hz
  have := cells_new w (enc y) t j u hu
  have ea : (⟨w.heap.size, 0, none⟩ : Addr).add j = ⟨w.heap.size, j, none⟩ := by unfold Addr.add; split <;> simp_all
  rw [ea] at this
  simpa using this


end Go.Proofs.Ytmboclfgldgefaa
