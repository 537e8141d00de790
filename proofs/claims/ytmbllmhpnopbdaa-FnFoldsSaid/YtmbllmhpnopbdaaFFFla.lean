/-
  Slices of structs, told cell by cell: read, owned, written beside.
-/
import Derived.Test.YtmbllmhpnopbdaaFFRowA

namespace Go.Proofs.Ytmbllmhpnopbdaa
open Go.RowKit
set_option linter.unusedVariables false

section
variable {α : Type} {enc : α → List Value} {k : Nat}

def flat (enc : α → List Value) (xs : List α) : List Value := xs.flatMap enc

theorem flat_length (hk : ∀ x, (enc x).length = k) : ∀ xs : List α, (flat enc xs).length = xs.length * k
  | [] => by simp [flat]
  | x :: xs => by
    have h := flat_length hk xs
    simp only [flat, List.flatMap_cons, List.length_append, List.length_cons, hk] at h ⊢
    rw [h, Nat.succ_mul]
    omega

theorem flat_at (hk : ∀ x, (enc x).length = k) : ∀ (xs : List α) (i j : Nat) (x : α), xs[i]? = some x → j < k → (flat enc xs)[i * k + j]? = (enc x)[j]?
  | [], i, j, x, h, _ => by simp at h
  | y :: xs, 0, j, x, h, hj => by
    simp at h
    subst h
    simp only [flat, List.flatMap_cons, Nat.zero_mul, Nat.zero_add]
    rw [List.getElem?_append_left (by rw [hk]; exact hj)]
  | y :: xs, i + 1, j, x, h, hj => by
    have ih := flat_at hk xs i j x (by simpa using h) hj
    simp only [flat, List.flatMap_cons]
    rw [List.getElem?_append_right (by rw [hk, Nat.succ_mul]; omega), hk, show (i + 1) * k + j - k = i * k + j by rw [Nat.succ_mul]; omega]
    exact ih

theorem flat_append (xs ys : List α) : flat enc (xs ++ ys) = flat enc xs ++ flat enc ys := by simp [flat]
theorem flat_one (x : α) : flat enc [x] = enc x := by simp [flat]

/-- The slice that begins at a reads as xs, k cells each. -/
def Rs (enc : α → List Value) (k : Nat) (w : World) (a : Option Addr) (xs : List α) : Prop :=
  xs = [] ∨ ∃ b off, a = some ⟨b, off, none⟩ ∧ ∀ i x, xs[i]? = some x → ∀ j u, (enc x)[j]? = some u → w.cell? ⟨b, off + i * k + j, none⟩ = some u

theorem Rs.below {w w' : World} {a : Option Addr} {xs : List α} (h : Rs enc k w a xs) {B : Nat} (hb : Below B w w') (hB : w.heap.size ≤ B) : Rs enc k w' a xs := by
  rcases h with h | ⟨b, off, ha, hc⟩
  · exact .inl h
  · refine .inr ⟨b, off, ha, fun i x hx j u hu => ?_⟩
    have h0 := hc i x hx j u hu
    exact (hb.cell (p := ⟨b, _, none⟩) (Nat.lt_of_lt_of_le (World.block_lt_of_cell? w _ h0) hB)).trans h0

/-- .. in a block from lo to below hi, which may be written. -/
def SlIn (enc : α → List Value) (k : Nat) (lo hi : Nat) (w : World) (a : Option Addr) (xs : List α) : Prop :=
  xs = [] ∨ ∃ b off, a = some ⟨b, off, none⟩ ∧ lo ≤ b ∧ b < hi ∧ ∀ i x, xs[i]? = some x → ∀ j u, (enc x)[j]? = some u → w.cell? ⟨b, off + i * k + j, none⟩ = some u ∧ w.frozen? ⟨b, off + i * k + j, none⟩ = false

theorem SlIn.reads {lo hi : Nat} {w : World} {a : Option Addr} {xs : List α} (h : SlIn enc k lo hi w a xs) : Rs enc k w a xs := by
  rcases h with h | ⟨b, off, ha, _, _, hc⟩
  · exact .inl h
  · exact .inr ⟨b, off, ha, fun i x hx j u hu => (hc i x hx j u hu).1⟩

theorem SlIn.turned {l u lo hi : Nat} {w w' : World} {a : Option Addr} {xs : List α} (h : SlIn enc k l u w a xs) (ht : Turned lo hi w w') (hn : u ≤ lo ∨ hi ≤ l) : SlIn enc k l u w' a xs := by
  rcases h with h | ⟨b, off, ha, h1, h2, hc⟩
  · exact .inl h
  · refine .inr ⟨b, off, ha, h1, h2, fun i x hx j v hv => ?_⟩
    obtain ⟨e1, e2⟩ := hc i x hx j v hv
    exact ⟨ht.cell e1 (by simp only; omega), (ht.frozen e1 (by simp only; omega)).trans e2⟩

theorem SlIn.below {l u : Nat} {w w' : World} {a : Option Addr} {xs : List α} (h : SlIn enc k l u w a xs) (hb : Below w.heap.size w w') : SlIn enc k l u w' a xs :=
  h.turned (lo := u) (hi := u) (Turned.ofBelow hb) (.inl (Nat.le_refl _))

theorem SlIn.mono {lo hi lo' hi' : Nat} {w : World} {a : Option Addr} {xs : List α} (h : SlIn enc k lo hi w a xs) (hl : lo' ≤ lo) (hh : hi ≤ hi') : SlIn enc k lo' hi' w a xs := by
  rcases h with h | ⟨b, off, ha, h1, h2, hc⟩
  · exact .inl h
  · exact .inr ⟨b, off, ha, by omega, by omega, hc⟩

/-- What the call appended itself. -/
theorem SlIn.ofRow {base e : Nat} {w : World} {v : Value} {xs : List α} (hk : ∀ x, (enc x).length = k) (h : w.ownsRow base e k v xs.length (flat enc xs)) : ∃ a c, v = .slice a xs.length c ∧ xs.length ≤ c ∧ SlIn enc k base w.heap.size w a xs ∧ (a = none → c = 0) := by
  obtain ⟨hl, h | ⟨g, cap, cur, rfl, hb, hc, hn, hm, hs, ht⟩⟩ := h
  · obtain ⟨rfl, h0⟩ := h
    refine ⟨none, 0, by rw [h0], by omega, .inl (List.length_eq_zero_iff.1 h0), fun _ => rfl⟩
  · refine ⟨_, cap, rfl, hn, .inr ⟨g, 0, rfl, hb, (Array.getElem?_eq_some_iff.1 hc).1, fun i x hx j u hu => ?_⟩, fun e => by cases e⟩
    have hj : j < k := by rw [← hk x]; exact (List.getElem?_eq_some_iff.1 hu).1
    have e := flat_at hk xs i j x hx hj
    have hi : i < xs.length := (List.getElem?_eq_some_iff.1 hx).1
    have hlt : i * k + j < xs.length * k := by
      have : i * k + k ≤ xs.length * k := by rw [← Nat.succ_mul]; exact Nat.mul_le_mul_right _ hi
      omega
    have e2 : cur[i * k + j]? = some u := by
      rw [← Array.getElem?_toList, ← hu, ← e, ← ht, List.getElem?_take_of_lt hlt]
    rw [Nat.zero_add]
    constructor
    · simp [World.cell?, hc, e2]
    · simp [World.frozen?, hc]
end

end Go.Proofs.Ytmbllmhpnopbdaa
