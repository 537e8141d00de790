/-
  The program's DeleteEdits.
-/
import Derived.Test.YtnfolgoloaeanaaGreatUHom
import Derived.Test.YtnfolgoloaeanaaGreatUMde
import Derived.Laws.StructEq
import Derived.Test.YtnfolgoloaeanaaGreatUEdb
import Derived.Test.YtnfolgoloaeanaaGreatUMae

namespace Go.Proofs.YtnfolgoloaeanaaGreat
open Go.RowKit
set_option linter.unusedVariables false

theorem neq_place (a b c d : Int) (W : World) : (binOp .neq 84 (.agg #[.int .i64 a, .int .i64 b]) (.agg #[.int .i64 c, .int .i64 d])).run Tryz.prog W = .ok (.bool (!(a == c && b == d))) W := by
  by_cases h1 : a = c <;> by_cases h2 : b = d <;> simp [go_sem, h1, h2]



/-- Edits and pages in blocks of their own, from lo up to hi. -/
def EdH (lo hi : Nat) (w : World) (a : Option Addr) (es : List (Int × List Int)) (b : Option Addr) (ps : List (List Int)) : Prop :=
  ∃ S1 S2 : Nat → Prop, HasE S1 w a es ∧ HasQ S2 w b ps ∧ (∀ k, S1 k → lo ≤ k ∧ k < hi) ∧ (∀ k, S2 k → lo ≤ k ∧ k < hi) ∧ ∀ k, S1 k → ¬ S2 k
/-- The same, marked. -/
def EdM (lo hi : Nat) (w : World) (a : Option Addr) (es : List (Int × List Int)) (b : Option Addr) (ps : List (List Int)) : Prop :=
  ∃ S1 S2 : Nat → Prop, MarkE S1 w a es 1 ∧ MarkQ S2 w b ps (endE es 1) ∧ (∀ k, S1 k → lo ≤ k ∧ k < hi) ∧ (∀ k, S2 k → lo ≤ k ∧ k < hi)
section
variable {lo hi : Nat} {w w' : World} {a b : Option Addr} {es : List (Int × List Int)} {ps : List (List Int)}
theorem EdH.below (h : EdH lo hi w a es b ps) (hb : Below w.heap.size w w') : EdH lo hi w' a es b ps := by
  obtain ⟨S1, S2, h1, h2, r⟩ := h
  exact ⟨S1, S2, h1.below hb, h2.below hb, r⟩
theorem EdM.below (h : EdM lo hi w a es b ps) (hb : Below w.heap.size w w') : EdM lo hi w' a es b ps := by
  obtain ⟨S1, S2, h1, h2, r⟩ := h
  exact ⟨S1, S2, h1.below hb, h2.below hb, r⟩
theorem EdH.turned (h : EdH lo hi w a es b ps) {x y : Nat} (ht : Turned x y w w') (hn : hi ≤ x ∨ y ≤ lo) : EdH lo hi w' a es b ps := by
  obtain ⟨S1, S2, h1, h2, l1, l2, d⟩ := h
  have t := TurnS.of (S := fun k => x ≤ k ∧ k < y) ht (fun k h1 h2 => ⟨h1, h2⟩)
  exact ⟨S1, S2, h1.turned t (fun k hk e => by have := l1 k hk; omega), h2.turned t (fun k hk e => by have := l2 k hk; omega), l1, l2, d⟩
end

theorem AePost.form {q : Int} {es : List (Int × List Int)} {ps : List (List Int)} {w w' : World} {e : Ending} (h : AePost q es ps w e w') : ∃ a c b d, e = .returned (.agg #[.int .i64 q, .slice a es.length c, .slice b ps.length d]) ∧ Below w.heap.size w w' ∧ EdH w.heap.size w'.heap.size w' a es b ps := by
  obtain ⟨v1, V1, v2, V2, rfl, g, hA⟩ := h
  obtain ⟨a, c, e1, o1⟩ := hA.e.own hA.s1
  obtain ⟨b, d, e2, o2⟩ := hA.p.own hA.s2
  refine ⟨a, c, b, d, by rw [e1, e2], g, blkP v1 V1, blkP v2 V2, ?_, ?_, fun k hk => hA.e.lt hk, fun k hk => hA.p.lt hk, hA.d⟩
  · rcases o1 with o1 | ⟨g1, A, C, F, e3, o1⟩
    · exact .inl o1
    · exact .inr ⟨g1, A, C, F, e3, o1⟩
  · rcases o2 with o2 | ⟨g1, A, C, F, e3, o2⟩
    · exact .inl o2
    · exact .inr ⟨g1, A, C, F, e3, o2⟩

theorem eqEd_same (q : Int) (a b x y : Option Addr) (n m c d c' d' : Nat) (es : List (Int × List Int)) (ps : List (List Int)) (lo hi lo' hi' : Nat) (w : World) (hn : es.length = n) (hp : ps.length = m) (hm : bigE es ≤ 2000000) (hm' : bigQ ps ≤ 13000000) (h : EdH lo hi w a es b ps) (h' : EdH lo' hi' w x es y ps) :
    Calls Tryz.prog 39 #[.agg #[.int .i64 q, .slice a n c, .slice b m d], .agg #[.int .i64 q, .slice x n c', .slice y m d']] w fun e w' => e = .returned (.bool true) ∧ Below w.heap.size w w' := by
  obtain ⟨S1, S2, h1, h2, _⟩ := h
  obtain ⟨S3, S4, h3, h4, _⟩ := h'
  exact eqEditsResult_same q S1 S2 S3 S4 a b x y n m c d c' d' es ps w hn hp (by omega) hm' h1 h2 h3 h4
theorem markEd_any (q : Int) (a b : Option Addr) (n m c d : Nat) (es : List (Int × List Int)) (ps : List (List Int)) (lo hi : Nat) (w : World) (hn : es.length = n) (hp : ps.length = m) (hm : bigE es ≤ 2000000) (hm' : bigQ ps ≤ 13000000) (h : EdH lo hi w a es b ps) (hh : hi ≤ w.heap.size) :
    Calls Tryz.prog 42 #[.agg #[.int .i64 q, .slice a n c, .slice b m d], .int .i64 1] w fun e w' => e = .returned (.int .i64 (endQ ps (endE es 1))) ∧ Turned lo hi w w' ∧ EdM lo hi w' a es b ps := by
  obtain ⟨S1, S2, h1, h2, l1, l2, d0⟩ := h
  refine (markEditsResult_any q S1 S2 a b n m c d es ps w hn hp hm hm' h1 h2 d0 (fun k hk => Nat.lt_of_lt_of_le (l1 k hk).2 hh) (fun k hk => Nat.lt_of_lt_of_le (l2 k hk).2 hh)).mono ?_
  rintro e w' ⟨rfl, t, m1, m2⟩
  refine ⟨rfl, ⟨t.os, t.tape, t.output, t.size, fun k hk hn => t.block k hk (fun hs => ?_)⟩, S1, S2, m1, m2, l1, l2⟩
  rcases hs with hs | hs
  · exact hn (l1 k hs)
  · exact hn (l2 k hs)
theorem heldEd_any (q : Int) (a b : Option Addr) (n m c d : Nat) (es : List (Int × List Int)) (ps : List (List Int)) (lo hi : Nat) (w : World) (hn : es.length = n) (hp : ps.length = m) (hm : bigE es ≤ 2000000) (hm' : bigQ ps ≤ 13000000) (h : EdM lo hi w a es b ps) :
    Calls Tryz.prog 43 #[.agg #[.int .i64 q, .slice a n c, .slice b m d], .int .i64 1] w fun e w' => e = .returned (.int .i64 (endQ ps (endE es 1))) ∧ Below w.heap.size w w' := by
  obtain ⟨S1, S2, h1, h2, _⟩ := h
  exact heldEditsResult_any q S1 S2 a b n m c d es ps w hn hp hm hm' h1 h2
theorem endQE_pos (es : List (Int × List Int)) (ps : List (List Int)) (hm : bigE es ≤ 2000000) : 0 ≤ endQ ps (endE es 1) := endQ_pos ps (endE_le es (k := 1) hm (by omega) (by omega)).1

/-- Three cells of an answer that is kept. -/
structure RsE (w : World) (b : Nat) (q : Int) (a1 : Option Addr) (n1 c1 : Nat) (a2 : Option Addr) (n2 c2 : Nat) : Prop where
  c0 : w.cell? ⟨b, 0, none⟩ = some (.int .i64 q)
  c1 : w.cell? ⟨b, 1, none⟩ = some (.slice a1 n1 c1)
  c2 : w.cell? ⟨b, 2, none⟩ = some (.slice a2 n2 c2)
section
variable {w w' : World} {b : Nat} {q : Int} {a1 a2 : Option Addr} {n1 d1 n2 d2 : Nat}
theorem RsE.lt (h : RsE w b q a1 n1 d1 a2 n2 d2) : b < w.heap.size := World.block_lt_of_cell? w _ h.c0
theorem RsE.turned (h : RsE w b q a1 n1 d1 a2 n2 d2) {lo hi : Nat} (ht : Turned lo hi w w') (hn : b < lo ∨ hi ≤ b) : RsE w' b q a1 n1 d1 a2 n2 d2 := ⟨ht.cell (p := ⟨b, 0, none⟩) h.c0 hn, ht.cell (p := ⟨b, 1, none⟩) h.c1 hn, ht.cell (p := ⟨b, 2, none⟩) h.c2 hn⟩
theorem RsE.below (h : RsE w b q a1 n1 d1 a2 n2 d2) (hb : Below w.heap.size w w') : RsE w' b q a1 n1 d1 a2 n2 d2 := h.turned (Turned.ofBelow (lo := 0) (hi := 0) hb) (.inr (Nat.zero_le _))
end

/-- How much there is at most. -/
theorem took_le (Z : Nat → List Int) (m : Nat) : ∀ n, (∀ i, i < n → (Z i).length ≤ m) → took Z n ≤ m * n
  | 0, _ => by simp [took]
  | n + 1, h => by
    have h1 := took_le Z m n (fun i hi => h i (by omega))
    have h2 := h n (by omega)
    simp only [took]
    rw [Nat.mul_succ]
    omega
theorem bigE_le {es : List (Int × List Int)} (h : ∀ e ∈ es, e.2.length ≤ 64) (hl : es.length ≤ 1000) : bigE es ≤ 2000000 := by
  have h1 := took_le (eZ es) 64 es.length (fun i hi => by
    unfold eZ
    rw [List.getD_eq_getElem?_getD, List.getElem?_eq_getElem hi, Option.getD_some]
    exact h _ (List.getElem_mem hi))
  unfold bigE
  omega
theorem bigQ_le {ps : List (List Int)} (h : ∀ zs ∈ ps, zs.length ≤ 64) (hl : ps.length ≤ 1000) : bigQ ps ≤ 13000000 := by
  have h1 := took_le (pZ ps) 64 ps.length (fun i hi => by
    unfold pZ
    rw [List.getD_eq_getElem?_getD, List.getElem?_eq_getElem hi, Option.getD_some]
    exact h _ (List.getElem_mem hi))
  unfold bigQ
  omega

end Go.Proofs.YtnfolgoloaeanaaGreat

