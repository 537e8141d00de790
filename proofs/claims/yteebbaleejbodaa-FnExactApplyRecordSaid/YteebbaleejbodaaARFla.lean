/-
  Slices of structs, told cell by cell: read, owned, written beside.
-/
import Derived.Test.YteebbaleejbodaaARBy
import Derived.Test.YteebbaleejbodaaARRowA
import Derived.WalkKit
import Derived.WalkSpells
import Derived.WalkLawsBesides
import Derived.Handy
import Derived.BigQuiet

namespace Go.Proofs.Yteebbaleejbodaa
open Go.RowKit
set_option linter.unusedVariables false

section
variable {α : Type} {enc : α → List Value} {k : Nat}

def flat (enc : α → List Value) (xs : List α) : List Value := xs.flatMap enc

theorem flat_length (hk : ∀ x, (enc x).length = k) : ∀ xs : List α, (flat enc xs).length = xs.length * k
  | [] => by simp [flat]
  | x :: xs => by
    have h := flat_length hk xs
    simp only [flat, List.flatMap_cons, List.length_append, List.length_cons, hk] at h ⊢
    rw [h, Nat.succ_mul]
    omega

theorem flat_at (hk : ∀ x, (enc x).length = k) : ∀ (xs : List α) (i j : Nat) (x : α), xs[i]? = some x → j < k → (flat enc xs)[i * k + j]? = (enc x)[j]?
  | [], i, j, x, h, _ => by simp at h
  | y :: xs, 0, j, x, h, hj => by
    simp at h
    subst h
    simp only [flat, List.flatMap_cons, Nat.zero_mul, Nat.zero_add]
    rw [List.getElem?_append_left (by rw [hk]; exact hj)]
  | y :: xs, i + 1, j, x, h, hj => by
    have ih := flat_at hk xs i j x (by simpa using h) hj
    simp only [flat, List.flatMap_cons]
    rw [List.getElem?_append_right (by rw [hk, Nat.succ_mul]; omega), hk, show (i + 1) * k + j - k = i * k + j by rw [Nat.succ_mul]; omega]
    exact ih

theorem flat_append (xs ys : List α) : flat enc (xs ++ ys) = flat enc xs ++ flat enc ys := by simp [flat]
theorem flat_one (x : α) : flat enc [x] = enc x := by simp [flat]

/-- The slice that begins at a reads as xs, k cells each. -/
def Rs (enc : α → List Value) (k : Nat) (w : World) (a : Option Addr) (xs : List α) : Prop :=
  xs = [] ∨ ∃ b off, a = some ⟨b, off, none⟩ ∧ ∀ i x, xs[i]? = some x → ∀ j u, (enc x)[j]? = some u → w.cell? ⟨b, off + i * k + j, none⟩ = some u

theorem Rs.below {w w' : World} {a : Option Addr} {xs : List α} (h : Rs enc k w a xs) {B : Nat} (hb : Below B w w') (hB : w.heap.size ≤ B) : Rs enc k w' a xs := by
  rcases h with h | ⟨b, off, ha, hc⟩
  · exact .inl h
  · refine .inr ⟨b, off, ha, fun i x hx j u hu => ?_⟩
    have h0 := hc i x hx j u hu
    exact (hb.cell (p := ⟨b, _, none⟩) (Nat.lt_of_lt_of_le (World.block_lt_of_cell? w _ h0) hB)).trans h0

/-- .. in a block from lo to below hi, which may be written. -/
def SlIn (enc : α → List Value) (k : Nat) (lo hi : Nat) (w : World) (a : Option Addr) (xs : List α) : Prop :=
  xs = [] ∨ ∃ b off, a = some ⟨b, off, none⟩ ∧ lo ≤ b ∧ b < hi ∧ ∀ i x, xs[i]? = some x → ∀ j u, (enc x)[j]? = some u → w.cell? ⟨b, off + i * k + j, none⟩ = some u ∧ w.frozen? ⟨b, off + i * k + j, none⟩ = false

theorem SlIn.reads {lo hi : Nat} {w : World} {a : Option Addr} {xs : List α} (h : SlIn enc k lo hi w a xs) : Rs enc k w a xs := by
  rcases h with h | ⟨b, off, ha, _, _, hc⟩
  · exact .inl h
  · exact .inr ⟨b, off, ha, fun i x hx j u hu => (hc i x hx j u hu).1⟩

theorem SlIn.turned {l u lo hi : Nat} {w w' : World} {a : Option Addr} {xs : List α} (h : SlIn enc k l u w a xs) (ht : Turned lo hi w w') (hn : u ≤ lo ∨ hi ≤ l) : SlIn enc k l u w' a xs := by
  rcases h with h | ⟨b, off, ha, h1, h2, hc⟩
  · exact .inl h
  · refine .inr ⟨b, off, ha, h1, h2, fun i x hx j v hv => ?_⟩
    obtain ⟨e1, e2⟩ := hc i x hx j v hv
    exact ⟨ht.cell e1 (by simp only; omega), (ht.frozen e1 (by simp only; omega)).trans e2⟩

theorem SlIn.below {l u : Nat} {w w' : World} {a : Option Addr} {xs : List α} (h : SlIn enc k l u w a xs) (hb : Below w.heap.size w w') : SlIn enc k l u w' a xs :=
  h.turned (lo := u) (hi := u) (Turned.ofBelow hb) (.inl (Nat.le_refl _))

theorem SlIn.mono {lo hi lo' hi' : Nat} {w : World} {a : Option Addr} {xs : List α} (h : SlIn enc k lo hi w a xs) (hl : lo' ≤ lo) (hh : hi ≤ hi') : SlIn enc k lo' hi' w a xs := by
  rcases h with h | ⟨b, off, ha, h1, h2, hc⟩
  · exact .inl h
  · exact .inr ⟨b, off, ha, by omega, by omega, hc⟩

/-- What the call appended itself. -/
theorem SlIn.ofRow {base e : Nat} {w : World} {v : Value} {xs : List α} (hk : ∀ x, (enc x).length = k) (h : w.ownsRow base e k v xs.length (flat enc xs)) : ∃ a c, v = .slice a xs.length c ∧ xs.length ≤ c ∧ SlIn enc k base w.heap.size w a xs ∧ (a = none → c = 0) := by
  obtain ⟨hl, h | ⟨g, cap, cur, rfl, hb, hc, hn, hm, hs, ht⟩⟩ := h
  · obtain ⟨rfl, h0⟩ := h
    refine ⟨none, 0, by rw [h0], by omega, .inl (List.length_eq_zero_iff.1 h0), fun _ => rfl⟩
  · refine ⟨_, cap, rfl, hn, .inr ⟨g, 0, rfl, hb, (Array.getElem?_eq_some_iff.1 hc).1, fun i x hx j u hu => ?_⟩, fun e => by cases e⟩
    have hj : j < k := by rw [← hk x]; exact (List.getElem?_eq_some_iff.1 hu).1
    have e := flat_at hk xs i j x hx hj
    have hi : i < xs.length := (List.getElem?_eq_some_iff.1 hx).1
    have hlt : i * k + j < xs.length * k := by
      have : i * k + k ≤ xs.length * k := by rw [← Nat.succ_mul]; exact Nat.mul_le_mul_right _ hi
      omega
    have e2 : cur[i * k + j]? = some u := by
      rw [← Array.getElem?_toList, ← hu, ← e, ← ht, List.getElem?_take_of_lt hlt]
    rw [Nat.zero_add]
    constructor
    · simp [World.cell?, hc, e2]
    · simp [World.frozen?, hc]
end

end Go.Proofs.Yteebbaleejbodaa

/-
  Which of two rows is before the other: both functions answer alike.
-/
namespace Go.Proofs.Yteebbaleejbodaa
open Go.RowKit

/-- Is the row with table t, key k before the one with table u, key l? -/
def befB (t k u l : Int) : Bool := decide (t < u) || (decide (t = u) && decide (k < l))

set_option maxHeartbeats 400000 in
theorem implIsBefore_any (t k v : Int) (s : ByteArray) (u l x : Int) (r : ByteArray) (w : World) :
    Calls Try.prog 104 #[.agg #[.int .i64 t, .int .i64 k, .int .i64 v, .string s], .agg #[.int .i64 u, .int .i64 l, .int .i64 x, .string r]] w fun e w' => e = .returned (.bool (befB t k u l)) ∧ Below w.heap.size w w' := by
  by_cases h1 : t < u
  · have e1 : befB t k u l = true := by simp [befB, h1]
    have d1 : decide (t < u) = true := by simpa using h1
    rw [e1]
    go_enter Try.func104, Try.ntmps104
    go_wp2
    go_ret
    exact ⟨rfl, by go_grown⟩
  · have d1 : decide (t < u) = false := by simpa using h1
    by_cases h2 : t = u
    · subst h2
      by_cases h3 : k < l
      · have e1 : befB t k t l = true := by simp [befB, h3]
        rw [e1]
        go_enter Try.func104, Try.ntmps104
        go_wp2
        go_ret
        exact ⟨rfl, by go_grown⟩
      · have e1 : befB t k t l = false := by simp [befB]; omega
        have d3 : decide (k < l) = false := by simpa using h3
        rw [e1]
        go_enter Try.func104, Try.ntmps104
        go_wp2
        go_ret
        exact ⟨rfl, by go_grown⟩
    · have e1 : befB t k u l = false := by simp [befB]; omega
      have d2 : (t == u) = false := by simpa using h2
      rw [e1]
      go_enter Try.func104, Try.ntmps104
      go_wp2
      go_ret
      exact ⟨rfl, by go_grown⟩

set_option maxHeartbeats 400000 in
theorem l1Before_any (a b : Nat) (t k u l : Int) (w : World) (ha0 : w.cell? ⟨a, 0, none⟩ = some (.int .i64 t)) (ha1 : w.cell? ⟨a, 1, none⟩ = some (.int .i64 k)) (hb0 : w.cell? ⟨b, 0, none⟩ = some (.int .i64 u)) (hb1 : w.cell? ⟨b, 1, none⟩ = some (.int .i64 l)) :
    Calls Try.prog 100 #[.pointer (some ⟨a, 0, none⟩), .pointer (some ⟨b, 0, none⟩)] w fun e w' => e = .returned (.bool (befB t k u l)) ∧ ∃ n, w' = w.drewN n := by
  by_cases h1 : t < u
  · have e1 : befB t k u l = true := by simp [befB, h1]
    have d1 : decide (t < u) = true := by simpa using h1
    rw [e1]
    go_enter Try.func100, Try.ntmps100
    go_wp2
    go_quiet (fail)
    go_wp2
    go_ret
    exact ⟨rfl, _, rfl⟩
  · have d1 : decide (t < u) = false := by simpa using h1
    by_cases h2 : t = u
    · subst h2
      by_cases h3 : k < l
      · have e1 : befB t k t l = true := by simp [befB, h3]
        rw [e1]
        go_enter Try.func100, Try.ntmps100
        go_wp2
        go_quiet (fail)
        go_wp2
        go_ret
        exact ⟨rfl, _, rfl⟩
      · have e1 : befB t k t l = false := by simp [befB]; omega
        have d3 : decide (k < l) = false := by simpa using h3
        rw [e1]
        go_enter Try.func100, Try.ntmps100
        go_wp2
        go_quiet (fail)
        go_wp2
        go_ret
        exact ⟨rfl, _, rfl⟩
    · have e1 : befB t k u l = false := by simp [befB]; omega
      have d2 : (t == u) = false := by simpa using h2
      rw [e1]
      go_enter Try.func100, Try.ntmps100
      go_wp2
      go_quiet (fail)
      go_wp2
      go_ret
      exact ⟨rfl, _, rfl⟩

end Go.Proofs.Yteebbaleejbodaa

/-
  The contracts of PackStub and of its model: both make the same bytes, in new memory, with the same code.
-/
namespace Go.Proofs.Yteebbaleejbodaa
open Go.RowKit

def stubB (p s : Int) : Bool := inW p 0 11 && inW s 0 15
def stubCode (p s : Int) : Int := if stubB p s = true then 0 else 3
def stubBytes (p s : Int) : List Int := if stubB p s = true then [1, p, s] else []
theorem stubBytes_small (p s : Int) : (stubBytes p s).length ≤ 3 := by unfold stubBytes; split <;> simp

theorem bytesIn_three {lo hi b : Nat} {w : World} {x y z : Int} (hlo : lo ≤ b) (hhi : b < hi) (h0 : w.cell? ⟨b, 0, none⟩ = some (.int .u8 x)) (h1 : w.cell? ⟨b, 1, none⟩ = some (.int .u8 y)) (h2 : w.cell? ⟨b, 2, none⟩ = some (.int .u8 z))
    (f0 : w.frozen? ⟨b, 0, none⟩ = false) (f1 : w.frozen? ⟨b, 1, none⟩ = false) (f2 : w.frozen? ⟨b, 2, none⟩ = false) : BytesIn lo hi w (some ⟨b, 0, none⟩) [x, y, z] := by
  refine .inr ⟨b, 0, rfl, hlo, hhi, fun i hi => ?_, fun i hi => ?_⟩
  · match i, hi with
    | 0, _ => exact h0
    | 1, _ => exact h1
    | 2, _ => exact h2
  · match i, hi with
    | 0, _ => exact f0
    | 1, _ => exact f1
    | 2, _ => exact f2

theorem inW_bounds {n lo hi : Int} (h : inW n lo hi = true) : lo ≤ n ∧ n ≤ hi := by simpa [inW] using h

set_option maxHeartbeats 400000 in
theorem l1Place_any (p s : Int) (w : World) : Calls Try.prog 177 #[.int .i64 p, .int .i64 s] w fun e w' => e = .returned (.bool (stubB p s)) ∧ w' = w := by
  cases h1 : inW p 0 11
  · have e0 : stubB p s = false := by simp [stubB, h1]
    rw [e0]
    clear e0
    go_enter Try.func177, Try.ntmps177
    go_wp2_with (go_at_call 110; refine (l1InW_any _ _ _ _).mono ?_; rintro e w' ⟨rfl, rfl⟩)
    go_ret
    exact ⟨rfl, rfl⟩
  · have e0 : stubB p s = inW s 0 15 := by simp [stubB, h1]
    rw [e0]
    clear e0
    go_enter Try.func177, Try.ntmps177
    go_wp2_with (go_at_call 110; refine (l1InW_any _ _ _ _).mono ?_; rintro e w' ⟨rfl, rfl⟩)
    go_ret
    exact ⟨rfl, rfl⟩

end Go.Proofs.Yteebbaleejbodaa
