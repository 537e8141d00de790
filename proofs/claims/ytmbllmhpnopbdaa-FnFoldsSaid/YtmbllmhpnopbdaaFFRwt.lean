/-
  Rows of one's own memory: toRowS, eqRowS.
-/
import Derived.Test.YtmbllmhpnopbdaaFFUnpR

namespace Go.Proofs.Ytmbllmhpnopbdaa
open Go.RowKit
set_option linter.unusedVariables false

/-- Four cells written. -/
def put4 (w : World) (b o : Nat) (r : Rw) : World := (((w.setCell ⟨b, o, none⟩ (.int .i64 r.t)).setCell ⟨b, o + 1, none⟩ (.int .i64 r.k)).setCell ⟨b, o + 2, none⟩ (.int .i64 r.v)).setCell ⟨b, o + 3, none⟩ (.string r.s)

theorem cell_off {w : World} {b o p : Nat} {v : Value} (h : o ≠ p) : (w.setCell ⟨b, p, none⟩ v).cell? ⟨b, o, none⟩ = w.cell? ⟨b, o, none⟩ :=
  World.cell?_setCell_other _ _ _ _ (fun e => h (by have := congrArg Addr.off e; simpa using this.symm))

theorem put4_same {w : World} {b o : Nat} {r : Rw} {v0 v1 v2 v3 : Value} (h0 : w.cell? ⟨b, o, none⟩ = some v0) (h1 : w.cell? ⟨b, o + 1, none⟩ = some v1) (h2 : w.cell? ⟨b, o + 2, none⟩ = some v2) (h3 : w.cell? ⟨b, o + 3, none⟩ = some v3) : RowC (put4 w b o r) b o r := by
  unfold put4
  refine ⟨?_, ?_, ?_, ?_⟩
  · rw [cell_off (by omega), cell_off (by omega), cell_off (by omega)]
    exact World.cell?_setCell_same _ _ _ h0
  · rw [cell_off (by omega), cell_off (by omega)]
    exact World.cell?_setCell_same _ _ _ (by rw [cell_off (by omega)]; exact h1)
  · rw [cell_off (by omega)]
    exact World.cell?_setCell_same _ _ _ (by rw [cell_off (by omega), cell_off (by omega)]; exact h2)
  · exact World.cell?_setCell_same _ _ _ (by rw [cell_off (by omega), cell_off (by omega), cell_off (by omega)]; exact h3)

theorem put4_other {w : World} {b o p : Nat} {r : Rw} (h : p < o ∨ o + 4 ≤ p) : (put4 w b o r).cell? ⟨b, p, none⟩ = w.cell? ⟨b, p, none⟩ := by
  unfold put4
  rw [cell_off (by omega), cell_off (by omega), cell_off (by omega), cell_off (by omega)]

theorem put4_frozen {w : World} {b o : Nat} {r : Rw} (p : Addr) : (put4 w b o r).frozen? p = w.frozen? p := by
  unfold put4
  rw [World.frozen?_setCell, World.frozen?_setCell, World.frozen?_setCell, World.frozen?_setCell]

theorem RowC.cells {w : World} {b o : Nat} {r : Rw} (h : RowC w b o r) : ∀ j u, (rwE r)[j]? = some u → w.cell? ⟨b, o + j, none⟩ = some u := by
  intro j u hu
  match j, hu with
  | 0, hu => simp [rwE] at hu; subst hu; exact h.c0
  | 1, hu => simp [rwE] at hu; subst hu; exact h.c1
  | 2, hu => simp [rwE] at hu; subst hu; exact h.c2
  | 3, hu => simp [rwE] at hu; subst hu; exact h.c3
  | j + 4, hu => simp [rwE] at hu

theorem info35' : (Try.prog.info? 26).map (fun i => (i.zero, i.size, i.bytes)) = some (some (.agg #[.int .i64 0, .int .i64 0, .int .i64 0, .string ⟨#[]⟩]), 4, 40) := by kernel_rfl
theorem info35 : ∃ i, Try.prog.info? 26 = some i ∧ i.zero = some (.agg #[.int .i64 0, .int .i64 0, .int .i64 0, .string ⟨#[]⟩]) ∧ i.size = 4 ∧ i.bytes = 40 := by
  have h := info35'
  cases hi : Try.prog.info? 26 with
  | none => rw [hi] at h; simp at h
  | some i => rw [hi] at h; simp at h; exact ⟨i, rfl, h.1, h.2.1, h.2.2⟩

/-- Block g holds n rows, of which the first k are there. -/
structure PartR (w : World) (g n k : Nat) (rs : List Rw) : Prop where
  c : ∀ i r, i < k → rs[i]? = some r → RowC w g (i * 4) r
  e : ∀ o, o < n * 4 → ∃ v, w.cell? ⟨g, o, none⟩ = some v
  f : ∀ o, w.frozen? ⟨g, o, none⟩ = false

theorem PartR.below {w w' : World} {g n k : Nat} {rs : List Rw} (h : PartR w g n k rs) (hb : Below w.heap.size w w') (hg : g < w.heap.size) : PartR w' g n k rs :=
  ⟨fun i r hi hr => (h.c i r hi hr).below hb hg, fun o ho => by obtain ⟨v, hv⟩ := h.e o ho; exact ⟨v, (hb.cell (p := ⟨g, _, none⟩) hg).trans hv⟩, fun o => (hb.frozen (p := ⟨g, _, none⟩) hg).trans (h.f o)⟩

theorem PartR.step {w : World} {g n k : Nat} {rs : List Rw} {r : Rw} (h : PartR w g n k rs) (hk : k < n) (hr : rs[k]? = some r) : PartR (put4 w g (k * 4) r) g n (k + 1) rs := by
  obtain ⟨v0, e0⟩ := h.e (k * 4) (by omega)
  obtain ⟨v1, e1⟩ := h.e (k * 4 + 1) (by omega)
  obtain ⟨v2, e2⟩ := h.e (k * 4 + 2) (by omega)
  obtain ⟨v3, e3⟩ := h.e (k * 4 + 3) (by omega)
  have hs : RowC (put4 w g (k * 4) r) g (k * 4) r := put4_same e0 e1 e2 e3
  refine ⟨fun i r' hi hr' => ?_, fun o ho => ?_, fun o => by rw [put4_frozen]; exact h.f o⟩
  · by_cases e : i = k
    · subst e
      rw [hr] at hr'
      cases hr'
      exact hs
    · obtain ⟨c0, c1, c2, c3⟩ := h.c i r' (by omega) hr'
      exact ⟨by rw [put4_other (by omega)]; exact c0, by rw [put4_other (by omega)]; exact c1, by rw [put4_other (by omega)]; exact c2, by rw [put4_other (by omega)]; exact c3⟩
  · by_cases e : k * 4 ≤ o ∧ o < k * 4 + 4
    · have : o = k * 4 ∨ o = k * 4 + 1 ∨ o = k * 4 + 2 ∨ o = k * 4 + 3 := by omega
      rcases this with rfl | rfl | rfl | rfl
      · exact ⟨_, hs.c0⟩
      · exact ⟨_, hs.c1⟩
      · exact ⟨_, hs.c2⟩
      · exact ⟨_, hs.c3⟩
    · rw [put4_other (by omega)]; exact h.e o ho

theorem PartR.own {w : World} {g n : Nat} {rs : List Rw} (h : PartR w g n n rs) (hn : rs.length = n) {lo hi : Nat} (hl : lo ≤ g) (hh : g < hi) : SlIn rwE 4 lo hi w (some ⟨g, 0, none⟩) rs := by
  refine .inr ⟨g, 0, rfl, hl, hh, fun i r hr j u hu => ?_⟩
  have hi : i < n := by rw [← hn]; exact (List.getElem?_eq_some_iff.1 hr).1
  rw [Nat.zero_add]
  exact ⟨(h.c i r hi hr).cells j u hu, h.f _⟩

end Go.Proofs.Ytmbllmhpnopbdaa
