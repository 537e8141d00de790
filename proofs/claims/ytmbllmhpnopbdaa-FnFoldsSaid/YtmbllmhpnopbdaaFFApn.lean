/-
  Structs appended to a slice of one's own, from whatever slice.
-/
import Derived.Test.YtmbllmhpnopbdaaFFRwg
import Derived.Lib.AppendZeros

namespace Go.Proofs.Ytmbllmhpnopbdaa
open Go.RowKit
set_option linter.unusedVariables false

section
variable {α : Type} {enc : α → List Value} {k : Nat}

/-- What is known of slices of type T, of elements of type E that are told by enc. -/
structure ElT (T E : Nat) (enc : α → List Value) (k bytes : Nat) : Prop where
  und : Try.prog.underlying T = some (.slice E)
  inf : ∃ i z, Try.prog.info? E = some i ∧ i.zero = some z ∧ i.size = k ∧ i.bytes = bytes ∧ z.cells.size = k
  len : ∀ x, (enc x).length = k
  one : ∀ x, ∀ u ∈ enc x, u.oneCell' = true
  pos : 0 < k
  few : bytes ≤ 1000

theorem run_append_none_any {P : Program} (w : World) (base : Nat) (t ty e : TypeId) (i : TypeInfo) (size c : Nat) (ht : P.underlying t = some (.slice e)) (hi : P.info? e = some i)
    (v : Value) (n : Nat) (xs : List Value) (hown : w.ownsRow base e size v n xs) : (Builtin.append_ #[t, t] ty #[v, .slice none 0 c]).run P w = .ok v w := by
  rcases hown.2 with ⟨rfl, rfl⟩ | ⟨g, cap, cur, rfl, _, _, hnc, _⟩
  · simp [Builtin.append_, run_underlying ht, sizeOf, typeInfo, hi, Builtin.lenOf, Builtin.firstCells]
  · simp [Builtin.append_, run_underlying ht, sizeOf, typeInfo, hi, Builtin.lenOf, Builtin.firstCells, hnc, storeCells]

theorem flat_one' (h : ∀ x, ∀ u ∈ enc x, u.oneCell' = true) (xs : List α) : ∀ u ∈ flat enc xs, u.oneCell' = true := by
  intro u hu
  obtain ⟨x, _, hx⟩ := List.mem_flatMap.1 hu
  exact h x u hx

theorem Rs.flatAt {w : World} {b off : Nat} {xs : List α} (hk : ∀ x, (enc x).length = k) (hp : 0 < k) (h : ∀ i x, xs[i]? = some x → ∀ j u, (enc x)[j]? = some u → w.cell? ⟨b, off + i * k + j, none⟩ = some u) : ∀ j u, (flat enc xs)[j]? = some u → w.cell? ((⟨b, off, none⟩ : Addr).add j) = some u := by
  intro j u hu
  have ea : (⟨b, off, none⟩ : Addr).add j = ⟨b, off + j, none⟩ := by unfold Addr.add; split <;> simp_all
  rw [ea]
  have hlt : j < xs.length * k := by rw [← flat_length hk xs]; exact (List.getElem?_eq_some_iff.1 hu).1
  have hi : j / k < xs.length := Nat.div_lt_of_lt_mul (by rw [Nat.mul_comm]; exact hlt)
  have hx : xs[j / k]? = some xs[j / k] := List.getElem?_eq_getElem hi
  have hm := Nat.mod_lt j hp
  have hj : j / k * k + j % k = j := by rw [Nat.mul_comm]; exact Nat.div_add_mod j k
  have e := flat_at hk xs (j / k) (j % k) _ hx hm
  rw [hj, hu] at e
  have := h _ _ hx (j % k) u e.symm
  rw [Nat.add_assoc, hj] at this
  exact this

theorem run_append_sl {T E bytes : Nat} (L : ElT T E enc k bytes) (w : World) (base : Nat) (ty : TypeId) (v : Value) (xs ys : List α) (x : Option Addr) (c : Nat) (hown : w.ownsRow base E k v xs.length (flat enc xs)) (hr : Rs enc k w x ys) (hl : xs.length + ys.length ≤ 100000000) (hb : base ≤ w.heap.size) :
    ∃ v' w', (Builtin.append_ #[T, T] ty #[v, .slice x ys.length c]).run Try.prog w = .ok v' w' ∧ w'.ownsRow base E k v' (xs ++ ys).length (flat enc (xs ++ ys)) ∧ w.grownBy w' v.ownBlock ∧ (v'.ownBlock = v.ownBlock ∨ v'.ownBlock = some w.heap.size) := by
  obtain ⟨i0, z, hi0, hz0, hz1, hz2, hz3⟩ := L.inf
  have hf := L.few
  have fin : ∀ (a : Addr), x = some a → (∀ j u, (flat enc ys)[j]? = some u → w.cell? (a.add j) = some u) → ∃ v' w', (Builtin.append_ #[T, T] ty #[v, .slice x ys.length c]).run Try.prog w = .ok v' w' ∧ w'.ownsRow base E k v' (xs ++ ys).length (flat enc (xs ++ ys)) ∧ w.grownBy w' v.ownBlock ∧ (v'.ownBlock = v.ownBlock ∨ v'.ownBlock = some w.heap.size) := fun a ha hc => by
    subst ha
    obtain ⟨v', w', h1, h2, h3, _, h5⟩ := run_append_own_at (P := Try.prog) w base T ty E i0 z k bytes L.und hi0 hz0 hz1 hz2 hz3 L.pos v xs.length (flat enc xs) hown a ys.length c (flat enc ys) (flat_length L.len ys) hc (flat_one' L.one ys) (by unfold maxLen; omega) (by
      have : (xs.length + ys.length) * bytes ≤ 100000000 * 1000 := Nat.mul_le_mul hl hf
      omega) hb
    exact ⟨v', w', h1, by rw [List.length_append, flat_append]; exact h2, h3, h5⟩
  rcases hr with h | ⟨b, off, ha, hc⟩
  · subst h
    cases x with
    | some a => exact fin a rfl (fun j u h => by simp [flat] at h)
    | none => exact ⟨v, w, run_append_none_any w base T ty E i0 k c L.und hi0 v xs.length _ hown, by rw [List.append_nil]; exact hown, ⟨rfl, rfl, rfl, Nat.le_refl _, fun _ _ _ => rfl⟩, .inl rfl⟩
  · exact fin ⟨b, off, none⟩ ha (Rs.flatAt L.len L.pos hc)

theorem wp_append_sl {T E bytes : Nat} (L : ElT T E enc k bytes) (w : World) {o : Oper} {a : Act} {K : Act → World → Prop} {Q : Exit → Act → World → Prop} (s x : Operand)
    (ho : o.op = .call { callee := .builtin .append, args := #[s, x], argTypes := #[T, T] }) (base : Nat) (v : Value) (xs ys : List α) (ax : Option Addr) (n c : Nat) (hs : a.eval s = v) (hx : a.eval x = .slice ax n c) (hn : ys.length = n)
    (hown : w.ownsRow base E k v xs.length (flat enc xs)) (hr : Rs enc k w ax ys) (hl : xs.length + ys.length ≤ 100000000) (hb : base ≤ w.heap.size)
    (h : ∀ v' w', w'.ownsRow base E k v' (xs ++ ys).length (flat enc (xs ++ ys)) → w.grownBy w' v.ownBlock → (v'.ownBlock = v.ownBlock ∨ v'.ownBlock = some w.heap.size) → K (a.put o.dst v') w') : o.wp Try.prog a w K Q := by
  subst hn
  obtain ⟨v', w', h1, h2, h3, h4⟩ := run_append_sl L w base o.type v xs ys ax c hown hr hl hb
  exact Go.Lib.wp_append_run w s x T T ho v _ hs hx v' w' h1 (h v' w' h2 h3 h4)

theorem wpList_append_sl {T E bytes : Nat} (L : ElT T E enc k bytes) (w : World) {ops : Array Oper} {rest : List Oper} {o : Oper} {a : Act} {Q : Exit → Act → World → Prop} (hgd : o.guard = none) (s x : Operand)
    (ho : o.op = .call { callee := .builtin .append, args := #[s, x], argTypes := #[T, T] }) (base : Nat) (v : Value) (xs ys : List α) (ax : Option Addr) (n c : Nat) (hs : a.eval s = v) (hx : a.eval x = .slice ax n c) (hn : ys.length = n)
    (hown : w.ownsRow base E k v xs.length (flat enc xs)) (hr : Rs enc k w ax ys) (hl : xs.length + ys.length ≤ 100000000) (hb : base ≤ w.heap.size)
    (h : ∀ v' w', w'.ownsRow base E k v' (xs ++ ys).length (flat enc (xs ++ ys)) → w.grownBy w' v.ownBlock → (v'.ownBlock = v.ownBlock ∨ v'.ownBlock = some w.heap.size) → wpList Try.prog ops Q rest (a.put o.dst v') w') : wpList Try.prog ops Q (o :: rest) a w :=
  wpList_plain hgd fun _ hK => wp_append_sl L w s x ho base v xs ys ax n c hs hx hn hown hr hl hb (fun v' w' h1 h2 h3 => hK _ _ (h v' w' h1 h2 h3))

/-- One element, laid in a new block of its own. -/
theorem wpList_append_one {T E bytes : Nat} (L : ElT T E enc k bytes) (w : World) {ops : Array Oper} {rest : List Oper} {o : Oper} {a : Act} {Q : Exit → Act → World → Prop} (hgd : o.guard = none) (s x : Operand)
    (ho : o.op = .call { callee := .builtin .append, args := #[s, x], argTypes := #[T, T] }) (base : Nat) (v : Value) (xs : List α) (y : α) (hs : a.eval s = v) (hx : a.eval x = .slice (some ⟨w.heap.size, 0, none⟩) 1 1)
    (hown : w.ownsRow base E k v xs.length (flat enc xs)) (hl : xs.length + 1 ≤ 100000000) (hb : base ≤ w.heap.size) (t : TypeId)
    (h : ∀ v' w', w'.ownsRow base E k v' (xs ++ [y]).length (flat enc (xs ++ [y])) → (w.alloc (.cells (enc y).toArray t)).grownBy w' v.ownBlock → (v'.ownBlock = v.ownBlock ∨ v'.ownBlock = some (w.heap.size + 1)) → wpList Try.prog ops Q rest (a.put o.dst v') w') : wpList Try.prog ops Q (o :: rest) a (w.alloc (.cells (enc y).toArray t)) := by
  have hb' : Below w.heap.size w (w.alloc (.cells (enc y).toArray t)) := (Below.refl _ _).alloc (Nat.le_refl _) _
  refine wpList_append_sl L _ hgd s x ho base v xs [y] (some ⟨w.heap.size, 0, none⟩) 1 1 hs hx rfl (ownsRow_below hown hb') (.inr ⟨_, 0, rfl, fun i z hz j u hu => ?_⟩) (by simpa using hl) (Nat.le_trans hb hb'.size) (fun v' w' h1 h2 h3 => h v' w' h1 h2 (by simpa using h3))
  have hi : i = 0 := by
    have := (List.getElem?_eq_some_iff.1 hz).1
    simp at this; exact this
  subst hi
  simp at hz
  subst hz
  have := cells_new w (enc y) t j u hu
  have ea : (⟨w.heap.size, 0, none⟩ : Addr).add j = ⟨w.heap.size, j, none⟩ := by unfold Addr.add; split <;> simp_all
  rw [ea] at this
  simpa using this
end

end Go.Proofs.Ytmbllmhpnopbdaa
