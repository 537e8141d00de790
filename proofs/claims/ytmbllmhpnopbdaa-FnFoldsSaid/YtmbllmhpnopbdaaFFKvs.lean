/-
  Maps out of lists of pairs.
-/
import Derived.Test.YtmbllmhpnopbdaaFFMp

namespace Go.Proofs.Ytmbllmhpnopbdaa
open Go.RowKit Go.Maps
set_option linter.unusedVariables false

/-- What the last of each key tells. -/
def kvF (l : List ((Int × Int) × Value)) : Int → Int → Option Value := l.foldl (fun f e => upd f e.1.1 e.1.2 (some e.2)) (fun _ _ => none)
theorem kvF_snoc (l : List ((Int × Int) × Value)) (x y : Int) (v : Value) : kvF (l ++ [((x, y), v)]) = upd (kvF l) x y (some v) := by simp [kvF, List.foldl_append]

theorem kvF_gen : ∀ (l : List ((Int × Int) × Value)) (f : Int → Int → Option Value) (x y : Int), (l.foldl (fun f e => upd f e.1.1 e.1.2 (some e.2)) f x y).isSome = true ↔ (f x y).isSome = true ∨ (x, y) ∈ l.map (·.1)
  | [], f, x, y => by simp
  | e :: l, f, x, y => by
    rw [List.foldl_cons, kvF_gen l]
    unfold upd
    by_cases h : x = e.1.1 ∧ y = e.1.2
    · rw [if_pos h]
      have he : e.1 = (x, y) := by rw [h.1, h.2]
      simp [he]
    · rw [if_neg h]
      have he : (x, y) ≠ e.1 := fun he => h ⟨by rw [← he], by rw [← he]⟩
      simp only [List.map_cons, List.mem_cons, he, false_or]
theorem kvF_some (l : List ((Int × Int) × Value)) (x y : Int) : (kvF l x y).isSome = true ↔ (x, y) ∈ l.map (·.1) := by
  unfold kvF
  rw [kvF_gen]
  simp

theorem kvF_at_gen : ∀ (l : List ((Int × Int) × Value)) (f : Int → Int → Option Value) (x y : Int) (v : Value), l.foldl (fun f e => upd f e.1.1 e.1.2 (some e.2)) f x y = some v → f x y = some v ∨ ((x, y), v) ∈ l
  | [], f, x, y, v, h => .inl h
  | e :: l, f, x, y, v, h => by
    rw [List.foldl_cons] at h
    rcases kvF_at_gen l _ x y v h with h | h
    · unfold upd at h
      split at h
      · rename_i h1
        simp at h
        refine .inr ?_
        have : e = ((x, y), v) := by rw [h1.1, h1.2, ← h]
        simp [this]
      · exact .inl h
    · exact .inr (by simp [h])
theorem kvF_at {l : List ((Int × Int) × Value)} {x y : Int} {v : Value} (h : kvF l x y = some v) : ((x, y), v) ∈ l := by
  rcases kvF_at_gen l _ x y v h with h | h
  · cases h
  · exact h

theorem nodup_at {l : List ((Int × Int) × Value)} (hd : (l.map (·.1)).Nodup) {q : Int × Int} {v v' : Value} (h : (q, v) ∈ l) (h' : (q, v') ∈ l) : v = v' := by
  induction l with
  | nil => simp at h
  | cons e l ih =>
    rw [List.map_cons, List.nodup_cons] at hd
    rcases List.mem_cons.1 h with h1 | h1 <;> rcases List.mem_cons.1 h' with h2 | h2
    · rw [← h1] at h2; simp at h2; exact h2.symm
    · exact absurd (List.mem_map.2 ⟨_, h2, by rw [← h1]⟩) hd.1
    · exact absurd (List.mem_map.2 ⟨_, h1, by rw [← h2]⟩) hd.1
    · exact ih hd.2 h1 h2
theorem kvF_mem {l : List ((Int × Int) × Value)} (hd : (l.map (·.1)).Nodup) {x y : Int} {v : Value} (h : ((x, y), v) ∈ l) : kvF l x y = some v := by
  have h1 := (kvF_some l x y).2 (List.mem_map.2 ⟨_, h, rfl⟩)
  obtain ⟨v', hv'⟩ := Option.isSome_iff_exists.1 h1
  rw [hv', nodup_at hd (kvF_at hv') h]

/-- Block b is the map of l; as many entries as keys. -/
def MapK (K : TypeId) (w : World) (b : Nat) (l : List ((Int × Int) × Value)) (sz : Nat) : Prop := MapF K w b (kvF l) sz ∧ sz ≤ l.length ∧ (sz = l.length ↔ (l.map (·.1)).Nodup)

theorem nodup_snoc {l : List (Int × Int)} {q : Int × Int} : (l ++ [q]).Nodup ↔ l.Nodup ∧ q ∉ l := by
  rw [List.nodup_append]
  constructor
  · rintro ⟨h1, _, h3⟩
    exact ⟨h1, fun h => h3 q h q (by simp) rfl⟩
  · rintro ⟨h1, h2⟩
    exact ⟨h1, by simp, fun a ha b hb e => h2 (by simp at hb; rw [← hb, ← e]; exact ha)⟩

section
variable {K : TypeId} {w w' : World} {b sz : Nat} {l : List ((Int × Int) × Value)}
theorem MapK.made (K : TypeId) (w : World) : MapK K (w.alloc (.map #[] 0)) w.heap.size [] 0 := ⟨MapF.made K w, Nat.le_refl _, by simp⟩
theorem MapK.below (h : MapK K w b l sz) (hb : Below w.heap.size w w') : MapK K w' b l sz := ⟨h.1.below hb, h.2⟩
theorem MapK.add (h : MapK K w b l sz) {x y : Int} {v : Value} (h' : MapF K w' b (upd (kvF l) x y (some v)) (nSz (kvF l x y) sz)) : MapK K w' b (l ++ [((x, y), v)]) (nSz (kvF l x y) sz) := by
  refine ⟨by rw [kvF_snoc]; exact h', ?_, ?_⟩
  · have := nSz_le (kvF l x y) sz
    have := h.2.1
    rw [List.length_append]; simp; omega
  · rw [List.map_append, List.map_cons, List.map_nil, nodup_snoc, ← h.2.2, ← kvF_some, List.length_append]
    have := h.2.1
    unfold nSz
    cases (kvF l x y).isSome <;> simp <;> omega
end

end Go.Proofs.Ytmbllmhpnopbdaa
