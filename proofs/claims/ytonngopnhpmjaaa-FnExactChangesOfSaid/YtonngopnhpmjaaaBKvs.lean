/-
  Maps out of lists of pairs.
-/
import Derived.Test.YtonngopnhpmjaaaBSee

namespace Go.Proofs.Ytonngopnhpmjaaa
open Go.RowKit Go.Maps
set_option linter.unusedVariables false

/-- What the last of each key tells. -/
def kvF (l : List ((Int × Int) × Value)) : Int → Int → Option Value := l.foldl (fun f e => upd f e.1.1 e.1.2 (some e.2)) (fun _ _ => none)
theorem kvF_snoc (l : List ((Int × Int) × Value)) (x y : Int) (v : Value) : kvF (l ++ [((x, y), v)]) = upd (kvF l) x y (some v) := by simp [kvF, List.foldl_append]

theorem kvF_gen : ∀ (l : List ((Int × Int) × Value)) (f : Int → Int → Option Value) (x y : Int), (l.foldl (fun f e => upd f e.1.1 e.1.2 (some e.2)) f x y).isSome = true ↔ (f x y).isSome = true ∨ (x, y) ∈ l.map (·.1)
  | [], f, x, y => by simp
  | e :: l, f, x, y => by
    rw [List.foldl_cons, kvF_gen l]
    unfold upd
    by_cases h : x = e.1.1 ∧ y = e.1.2
    · rw [if_pos h]
      have he : e.1 = (x, y) := by rw [h.1, h.2]
      simp [he]
    · rw [if_neg h]
      have he : (x, y) ≠ e.1 := fun he => h ⟨by rw [← he], by rw [← he]⟩
      simp only [List.map_cons, List.mem_cons, he, false_or]
theorem kvF_some (l : List ((Int × Int) × Value)) (x y : Int) : (kvF l x y).isSome = true ↔ (x, y) ∈ l.map (·.1) := by
  unfold kvF
  rw [kvF_gen]
  simp

theorem kvF_at_gen : ∀ (l : List ((Int × Int) × Value)) (f : Int → Int → Option Value) (x y : Int) (v : Value), l.foldl (fun f e => upd f e.1.1 e.1.2 (some e.2)) f x y = some v → f x y = some v ∨ ((x, y), v) ∈ l
  | [], f, x, y, v, h => .inl h
  | e :: l, f, x, y, v, h => by
    rw [List.foldl_cons] at h
    rcases kvF_at_gen l _ x y v h with h | h
    · unfold upd at h
      split at h
      · rename_i h1
        simp at h
        refine .inr ?_
        have : e = ((x, y), v) := by rw [h1.1, h1.2, ← h]
        simp [this]
      · exact .inl h
    · exact .inr (by simp [h])
theorem kvF_at {l : List ((Int × Int) × Value)} {x y : Int} {v : Value} (h : kvF l x y = some v) : ((x, y), v) ∈ l := by
  rcases kvF_at_gen l _ x y v h with h | h
  · cases h
  · exact h

theorem nodup_at {l : List ((Int × Int) × Value)} (hd : (l.map (·.1)).Nodup) {q : Int × Int} {v v' : Value} (h : (q, v) ∈ l) (h' : (q, v') ∈ l) : v = v' := by
  induction l with
  | nil => simp at h
  | cons e l ih =>
    rw [List.map_cons, List.nodup_cons] at hd
    rcases List.mem_cons.1 h with h1 | h1 <;> rcases List.mem_cons.1 h' with h2 | h2
    · rw [← h1] at h2; simp at h2; exact h2.symm
    · exact absurd (List.mem_map.2 ⟨_, h2, by rw [← h1]⟩) hd.1
    · exact absurd (List.mem_map.2 ⟨_, h1, by rw [← h2]⟩) hd.1
    · exact ih hd.2 h1 h2
theorem kvF_mem {l : List ((Int × Int) × Value)} (hd : (l.map (·.1)).Nodup) {x y : Int} {v : Value} (h : ((x, y), v) ∈ l) : kvF l x y = some v := by
  have h1 := (kvF_some l x y).2 (List.mem_map.2 ⟨_, h, rfl⟩)
  obtain ⟨v', hv'⟩ := Option.isSome_iff_exists.1 h1
  rw [hv', nodup_at hd (kvF_at hv') h]

/-- Block b is the map of l; as many entries as keys. -/
def MapK (K : TypeId) (w : World) (b : Nat) (l : List ((Int × Int) × Value)) (sz : Nat) : Prop := MapF K w b (kvF l) sz ∧ sz ≤ l.length ∧ (sz = l.length ↔ (l.map (·.1)).Nodup)

theorem nodup_snoc {l : List (Int × Int)} {q : Int × Int} : (l ++ [q]).Nodup ↔ l.Nodup ∧ q ∉ l := by
  rw [List.nodup_append]
  constructor
  · rintro ⟨h1, _, h3⟩
    exact ⟨h1, fun h => h3 q h q (by simp) rfl⟩
  · rintro ⟨h1, h2⟩
    exact ⟨h1, by simp, fun a ha b hb e => h2 (by simp at hb; rw [← hb, ← e]; exact ha)⟩

section
variable {K : TypeId} {w w' : World} {b sz : Nat} {l : List ((Int × Int) × Value)}
theorem MapK.made (K : TypeId) (w : World) : MapK K (w.alloc (.map #[] 0)) w.heap.size [] 0 := ⟨MapF.made K w, Nat.le_refl _, by simp⟩
theorem MapK.below (h : MapK K w b l sz) (hb : Below w.heap.size w w') : MapK K w' b l sz := ⟨h.1.below hb, h.2⟩
theorem MapK.add (h : MapK K w b l sz) {x y : Int} {v : Value} (h' : MapF K w' b (upd (kvF l) x y (some v)) (nSz (kvF l x y) sz)) : MapK K w' b (l ++ [((x, y), v)]) (nSz (kvF l x y) sz) := by
  refine ⟨by rw [kvF_snoc]; exact h', ?_, ?_⟩
  · have := nSz_le (kvF l x y) sz
    have := h.2.1
    rw [List.length_append]; simp; omega
  · rw [List.map_append, List.map_cons, List.map_nil, nodup_snoc, ← h.2.2, ← kvF_some, List.length_append]
    have := h.2.1
    unfold nSz
    cases (kvF l x y).isSome <;> simp <;> omega
end

theorem mvF_at (xs : List Spt) : ∀ a b v, mvF xs a b = some v → ∃ x ∈ xs, x.c.f = 2 ∧ x.p = a ∧ x.s = b ∧ v = rowV x := by
  have : ∀ (l : List Spt) (f : Int → Int → Option Value) a b v, (l.foldl mvS f) a b = some v → f a b = some v ∨ ∃ x ∈ l, x.c.f = 2 ∧ x.p = a ∧ x.s = b ∧ v = rowV x := by
    intro l
    induction l with
    | nil => intro f a b v h; exact .inl h
    | cons z l ih =>
      intro f a b v h
      rcases ih _ a b v h with h | ⟨x, hx, r⟩
      · unfold mvS at h
        split at h
        · rename_i h2
          unfold upd at h
          split at h
          · rename_i h1
            simp at h
            exact .inr ⟨z, by simp, h2, h1.1.symm, h1.2.symm, h.symm⟩
          · exact .inl h
        · exact .inl h
      · exact .inr ⟨x, by simp [hx], r⟩
  intro a b v h
  rcases this xs _ a b v h with h | h
  · cases h
  · exact h

/-- Rows that are seen have small keys. -/
theorem plF_ok {xs : List Spt} (hk : ∀ x ∈ xs, SpOk x) : ∀ y ∈ plF (mvF xs) xs, small y.r.t ∧ small y.r.k ∧ y.q = 0 ∧ y.r.s.size ≤ 64 := by
  intro y hy
  obtain ⟨x, hx, h⟩ := List.mem_flatMap.1 hy
  have hs0 : small 0 := ⟨by omega, by omega⟩
  unfold see1 at h
  split at h
  · simp at h; subst h; exact ⟨(hk x hx).ct, (hk x hx).ck, rfl, (hk x hx).sz⟩
  · split at h
    · simp at h
      subst h
      cases hf : mvF xs x.c.p x.c.l with
      | none => exact ⟨hs0, hs0, rfl, Nat.zero_le _⟩
      | some v =>
        obtain ⟨z, hz, _, _, _, rfl⟩ := mvF_at xs _ _ _ hf
        exact ⟨(hk z hz).ct, (hk z hz).ck, rfl, (hk z hz).sz⟩
    · simp at h

/-- Cells of right pages. -/
theorem unp_small (zs : List Int) (hz : ∀ z ∈ zs, 0 ≤ z ∧ z ≤ 255) : small (unp zs).p ∧ small (unp zs).l ∧ small (unp zs).t ∧ small (unp zs).k ∧ ((unp zs).q = 0 → (unp zs).f = 0 ∨ (unp zs).f = 1 ∨ (unp zs).f = 2) ∧ (unp zs).s.size ≤ zs.length := by
  have hg := fun i => getD_range hz i
  have hs0 : small 0 := ⟨by omega, by omega⟩
  have sm : ∀ i, small (zs.getD i 0) := fun i => ⟨(hg i).1, by have := (hg i).2; omega⟩
  have he : small errC.p ∧ small errC.l ∧ small errC.t ∧ small errC.k ∧ (errC.q = 0 → errC.f = 0 ∨ errC.f = 1 ∨ errC.f = 2) ∧ errC.s.size ≤ zs.length := ⟨hs0, hs0, hs0, hs0, fun _ => .inl rfl, Nat.zero_le _⟩
  unfold unp
  split
  · exact he
  · split
    · unfold stubC; split
      · exact ⟨sm 1, sm 2, hs0, hs0, fun _ => .inr (.inl rfl), Nat.zero_le _⟩
      · exact he
    · split
      · rename_i h02
        unfold rowC; split
        · exact ⟨hs0, hs0, sm 1, sm 2, fun _ => by rcases h02 with h | h; exact .inl h; exact .inr (.inr h), by have := textC_size zs; simp only at this ⊢; omega⟩
        · exact he
      · exact he

theorem cellsTo_mem (p : Int) (zs : List Int) : ∀ k x, x ∈ cellsTo p zs k → ∃ s, s < k ∧ empB zs s = false ∧ x = ⟨p, s, unp (cellOf zs s)⟩
  | 0, x, h => by simp [cellsTo] at h
  | k + 1, x, h => by
    simp only [cellsTo, List.mem_append] at h
    rcases h with h | h
    · obtain ⟨s, h1, h2⟩ := cellsTo_mem p zs k x h
      exact ⟨s, by omega, h2⟩
    · unfold oneC at h
      split at h
      · simp at h
      · rename_i he
        simp at h
        exact ⟨k, by omega, by simpa using he, h⟩
theorem badTo_not {zs : List Int} : ∀ {n : Nat}, badTo zs n = false → ∀ s, s < n → badAt zs s = false
  | 0, _, s, hs => by omega
  | n + 1, h, s, hs => by
    simp only [badTo, Bool.or_eq_false_iff] at h
    by_cases e : s = n
    · rw [e]; exact h.2
    · exact badTo_not h.1 s (by omega)

theorem pageL_ok (p : Nat) (hp : p ≤ 1000) {zs : List Int} (hz : ∀ z ∈ zs, 0 ≤ z ∧ z ≤ 255) : ∀ x ∈ pageL p zs, SpOk x := by
  intro x hx
  unfold pageL at hx
  split at hx
  · rename_i h0
    obtain ⟨h1, h2⟩ := pageC_fine h0
    have hF := fine_of hz h1
    obtain ⟨s, hs, he, rfl⟩ := cellsTo_mem _ _ _ _ hx
    have hb := badTo_not h2 s hs
    have hq : (unp (cellOf zs s)).q = 0 := by
      unfold badAt at hb
      rw [he] at hb
      simpa using hb
    have hzc : ∀ z ∈ cellOf zs s, 0 ≤ z ∧ z ≤ 255 := fun z h => hz z (List.mem_of_mem_drop (List.mem_of_mem_take h))
    obtain ⟨u1, u2, u3, u4, u5, u6⟩ := unp_small (cellOf zs s) hzc
    have hl := cellOf_length hF s hs
    have he64 := hF.end64 s hs
    have hfew := hF.few
    exact ⟨⟨by simp only; omega, by simp only; omega⟩, ⟨by simp only; omega, by simp only; omega⟩, u1, u2, u3, u4, hq, u5 hq, by simp only; omega⟩
  · simp at hx

theorem spotsOf_ok : ∀ (l : List (List Int)) (p : Nat), p + l.length ≤ 1000 → PgOk l → ∀ x ∈ spotsOf p l, SpOk x
  | [], _, _, _, x, h => by simp [spotsOf] at h
  | z :: l, p, hp, h, x, hx => by
    simp only [List.length_cons] at hp
    simp only [spotsOf, List.mem_append] at hx
    rcases hx with hx | hx
    · exact pageL_ok p (by omega) (h z (by simp)).2 x hx
    · exact spotsOf_ok l (p + 1) (by omega) (fun y hy => h y (by simp [hy])) x hx

theorem allL_ok {ps : List (List Int)} (hp : PgOk ps) : (∀ x ∈ allL ps, SpOk x) ∧ (allL ps).length ≤ 200 := by
  unfold allL
  split
  · rename_i h
    have h12 : ps.length ≤ 12 := by
      unfold allQ at h
      split at h
      · simp at h
      · omega
    refine ⟨spotsOf_ok ps 0 (by omega) hp, ?_⟩
    have := spotsOf_len ps 0 hp
    omega
  · exact ⟨fun x hx => by simp at hx, by simp⟩

end Go.Proofs.Ytonngopnhpmjaaa
