/-
  Maps out of lists of pairs.
-/
import Derived.Test.YthhkgpflodeleaaFCMp
import Derived.Test.YthhkgpflodeleaaFCChw

namespace Go.Proofs.Ythhkgpflodeleaa
open Go.RowKit Go.Maps
set_option linter.unusedVariables false

/-- What the last of each key tells. -/
def kvF (l : List ((Int × Int) × Value)) : Int → Int → Option Value := l.foldl (fun f e => upd f e.1.1 e.1.2 (some e.2)) (fun _ _ => none)
theorem kvF_snoc (l : List ((Int × Int) × Value)) (x y : Int) (v : Value) : kvF (l ++ [((x, y), v)]) = upd (kvF l) x y (some v) := by simp [kvF, List.foldl_append]

theorem kvF_gen : ∀ (l : List ((Int × Int) × Value)) (f : Int → Int → Option Value) (x y : Int), (l.foldl (fun f e => upd f e.1.1 e.1.2 (some e.2)) f x y).isSome = true ↔ (f x y).isSome = true ∨ (x, y) ∈ l.map (·.1)
  | [], f, x, y => by simp
  | e :: l, f, x, y => by
    rw [List.foldl_cons, kvF_gen l]
    unfold upd
    by_cases h : x = e.1.1 ∧ y = e.1.2
    · rw [if_pos h]
      have he : e.1 = (x, y) := by rw [h.1, h.2]
      simp [he]
    · rw [if_neg h]
      have he : (x, y) ≠ e.1 := fun he => h ⟨by rw [← he], by rw [← he]⟩
      simp only [List.map_cons, List.mem_cons, he, false_or]
theorem kvF_some (l : List ((Int × Int) × Value)) (x y : Int) : (kvF l x y).isSome = true ↔ (x, y) ∈ l.map (·.1) := by
  unfold kvF
  rw [kvF_gen]
  simp

theorem kvF_at_gen : ∀ (l : List ((Int × Int) × Value)) (f : Int → Int → Option Value) (x y : Int) (v : Value), l.foldl (fun f e => upd f e.1.1 e.1.2 (some e.2)) f x y = some v → f x y = some v ∨ ((x, y), v) ∈ l
  | [], f, x, y, v, h => .inl h
  | e :: l, f, x, y, v, h => by
    rw [List.foldl_cons] at h
    rcases kvF_at_gen l _ x y v h with h | h
    · unfold upd at h
      split at h
      · rename_i h1
        simp at h
        refine .inr ?_
        have : e = ((x, y), v) := by rw [h1.1, h1.2, ← h]
        simp [this]
      · exact .inl h
    · exact .inr (by simp [h])
theorem kvF_at {l : List ((Int × Int) × Value)} {x y : Int} {v : Value} (h : kvF l x y = some v) : ((x, y), v) ∈ l := by
  rcases kvF_at_gen l _ x y v h with h | h
  · cases h
  · exact h

theorem nodup_at {l : List ((Int × Int) × Value)} (hd : (l.map (·.1)).Nodup) {q : Int × Int} {v v' : Value} (h : (q, v) ∈ l) (h' : (q, v') ∈ l) : v = v' := by
  induction l with
  | nil => simp at h
  | cons e l ih =>
    rw [List.map_cons, List.nodup_cons] at hd
    rcases List.mem_cons.1 h with h1 | h1 <;> rcases List.mem_cons.1 h' with h2 | h2
    · rw [← h1] at h2; simp at h2; exact h2.symm
    · exact absurd (List.mem_map.2 ⟨_, h2, by rw [← h1]⟩) hd.1
    · exact absurd (List.mem_map.2 ⟨_, h1, by rw [← h2]⟩) hd.1
    · exact ih hd.2 h1 h2
theorem kvF_mem {l : List ((Int × Int) × Value)} (hd : (l.map (·.1)).Nodup) {x y : Int} {v : Value} (h : ((x, y), v) ∈ l) : kvF l x y = some v := by
  have h1 := (kvF_some l x y).2 (List.mem_map.2 ⟨_, h, rfl⟩)
  obtain ⟨v', hv'⟩ := Option.isSome_iff_exists.1 h1
  rw [hv', nodup_at hd (kvF_at hv') h]

/-- Block b is the map of l; as many entries as keys. -/
def MapK (K : TypeId) (w : World) (b : Nat) (l : List ((Int × Int) × Value)) (sz : Nat) : Prop := MapF K w b (kvF l) sz ∧ sz ≤ l.length ∧ (sz = l.length ↔ (l.map (·.1)).Nodup)

theorem nodup_snoc {l : List (Int × Int)} {q : Int × Int} : (l ++ [q]).Nodup ↔ l.Nodup ∧ q ∉ l := by
  rw [List.nodup_append]
  constructor
  · rintro ⟨h1, _, h3⟩
    exact ⟨h1, fun h => h3 q h q (by simp) rfl⟩
  · rintro ⟨h1, h2⟩
    exact ⟨h1, by simp, fun a ha b hb e => h2 (by simp at hb; rw [← hb, ← e]; exact ha)⟩

section
variable {K : TypeId} {w w' : World} {b sz : Nat} {l : List ((Int × Int) × Value)}
theorem MapK.made (K : TypeId) (w : World) : MapK K (w.alloc (.map #[] 0)) w.heap.size [] 0 := ⟨MapF.made K w, Nat.le_refl _, by simp⟩
theorem MapK.below (h : MapK K w b l sz) (hb : Below w.heap.size w w') : MapK K w' b l sz := ⟨h.1.below hb, h.2⟩
theorem MapK.add (h : MapK K w b l sz) {x y : Int} {v : Value} (h' : MapF K w' b (upd (kvF l) x y (some v)) (nSz (kvF l x y) sz)) : MapK K w' b (l ++ [((x, y), v)]) (nSz (kvF l x y) sz) := by
  refine ⟨by rw [kvF_snoc]; exact h', ?_, ?_⟩
  · have := nSz_le (kvF l x y) sz
    have := h.2.1
    rw [List.length_append]; simp; omega
  · rw [List.map_append, List.map_cons, List.map_nil, nodup_snoc, ← h.2.2, ← kvF_some, List.length_append]
    have := h.2.1
    unfold nSz
    cases (kvF l x y).isSome <;> simp <;> omega
end

end Go.Proofs.Ythhkgpflodeleaa

/-
  Changes between rows, plainly; risingKeys of a map told by a function.
-/
namespace Go.Proofs.Ythhkgpflodeleaa
open Go.RowKit Go.Maps
set_option linter.unusedVariables false

def chV (x : Chg) : Value := .agg #[.bool x.was, .int .i64 x.b.t, .int .i64 x.b.k, .int .i64 x.b.v, .string x.b.s, .bool x.is, .int .i64 x.a.t, .int .i64 x.a.k, .int .i64 x.a.v, .string x.a.s]
def zR : Rw := ⟨0, 0, 0, ⟨#[]⟩⟩
/-- The row of a key. -/
def fR (rs : List Rw) (x y : Int) : Option Rw := rs.find? fun r => decide (r.t = x) && decide (r.k = y)
/-- The change at a key. -/
def chAt (bs az : List Rw) (x y : Int) : Option Chg := match fR bs x y, fR az x y with
  | none, none => none
  | some b, none => some ⟨true, b, false, zR⟩
  | none, some a => some ⟨false, zR, true, a⟩
  | some b, some a => some ⟨true, b, true, a⟩
def chF (bs az : List Rw) : Int → Int → Option Value := fun x y => (chAt bs az x y).map chV

/-- No two rows of one key. -/
def Uniq (rs : List Rw) : Prop := rs.Pairwise fun a b => ¬ (a.t = b.t ∧ a.k = b.k)

theorem fR_snoc (rs : List Rw) (r : Rw) (x y : Int) : fR (rs ++ [r]) x y = (fR rs x y).or (if r.t = x ∧ r.k = y then some r else none) := by
  unfold fR
  rw [List.find?_append]
  congr 1
  by_cases h : r.t = x ∧ r.k = y
  · simp [h]
  · rw [if_neg h]
    simp only [List.find?_cons, List.find?_nil]
    split
    · rename_i h1; simp at h1; exact absurd h1 h
    · rfl

theorem fR_new {rs : List Rw} {j : Nat} {r : Rw} (hu : Uniq rs) (hx : rs[j]? = some r) : fR (rs.take j) r.t r.k = none := by
  unfold fR
  rw [List.find?_eq_none]
  intro x hx' h
  simp at h
  obtain ⟨i, hi⟩ := List.getElem?_of_mem hx'
  have hij : i < j := by
    have := (List.getElem?_eq_some_iff.1 hi).1
    rw [List.length_take] at this
    omega
  rw [List.getElem?_take, if_pos hij] at hi
  have hil := (List.getElem?_eq_some_iff.1 hi)
  have hjl := (List.getElem?_eq_some_iff.1 hx)
  have := List.pairwise_iff_getElem.1 hu i j hil.1 hjl.1 hij
  rw [hil.2, hjl.2] at this
  exact this h

theorem chF_step1 {bs : List Rw} {j : Nat} {r : Rw} (hu : Uniq bs) (hx : bs[j]? = some r) : upd (chF (bs.take j) []) r.t r.k (some (chV ⟨true, r, false, zR⟩)) = chF (bs.take (j + 1)) [] := by
  funext x y
  unfold upd chF chAt
  rw [take_snoc hx, fR_snoc]
  have hn := fR_new hu hx
  by_cases h : x = r.t ∧ y = r.k
  · obtain ⟨rfl, rfl⟩ := h
    rw [if_pos ⟨rfl, rfl⟩, hn]
    simp [fR]
  · rw [if_neg h, if_neg (fun e => h ⟨e.1.symm, e.2.symm⟩), Option.or_none]

theorem chF_step2 {bs az : List Rw} {j : Nat} {r : Rw} (hu : Uniq az) (hx : az[j]? = some r) : upd (chF bs (az.take j)) r.t r.k (some (chV { (chAt bs (az.take j) r.t r.k).getD ⟨false, zR, false, zR⟩ with is := true, a := r })) = chF bs (az.take (j + 1)) := by
  funext x y
  unfold upd chF
  have hn := fR_new hu hx
  by_cases h : x = r.t ∧ y = r.k
  · obtain ⟨rfl, rfl⟩ := h
    rw [if_pos ⟨rfl, rfl⟩]
    unfold chAt
    rw [take_snoc hx, fR_snoc, hn]
    cases fR bs r.t r.k <;> simp
  · rw [if_neg h]
    unfold chAt
    rw [take_snoc hx, fR_snoc, if_neg (fun e => h ⟨e.1.symm, e.2.symm⟩), Option.or_none]

/-- What is left of the changes. -/
def chK (bs az : List Rw) (x y : Int) : Option Chg := (chAt bs az x y).filter fun c => !noB c
theorem chK_mem {bs az : List Rw} {x y : Int} (h : (chK bs az x y).isSome = true) : (x, y) ∈ bs.map (fun r => (r.t, r.k)) ++ az.map (fun r => (r.t, r.k)) := by
  have key : ∀ (rs : List Rw) (r : Rw), fR rs x y = some r → (x, y) ∈ rs.map (fun r => (r.t, r.k)) := fun rs r hr => by
    unfold fR at hr
    have h1 := List.mem_of_find?_eq_some hr
    have h2 := List.find?_some hr
    simp at h2
    exact List.mem_map.2 ⟨r, h1, by rw [h2.1, h2.2]⟩
  have h0 : chAt bs az x y ≠ none := by
    intro e
    unfold chK at h
    rw [e] at h
    simp at h
  cases h1 : fR bs x y with
  | some r => exact List.mem_append_left _ (key bs r h1)
  | none =>
    cases h2 : fR az x y with
    | some r => exact List.mem_append_right _ (key az r h2)
    | none => exact absurd (by unfold chAt; rw [h1, h2]) h0
theorem chF_mem {bs az : List Rw} {x y : Int} (h : (chF bs az x y).isSome = true) : (x, y) ∈ bs.map (fun r => (r.t, r.k)) ++ az.map (fun r => (r.t, r.k)) := by
  have key : ∀ (rs : List Rw) (r : Rw), fR rs x y = some r → (x, y) ∈ rs.map (fun r => (r.t, r.k)) := fun rs r hr => by
    unfold fR at hr
    have h1 := List.mem_of_find?_eq_some hr
    have h2 := List.find?_some hr
    simp at h2
    exact List.mem_map.2 ⟨r, h1, by rw [h2.1, h2.2]⟩
  have h0 : chAt bs az x y ≠ none := by
    intro e
    unfold chF at h
    rw [e] at h
    simp at h
  cases h1 : fR bs x y with
  | some r => exact List.mem_append_left _ (key bs r h1)
  | none =>
    cases h2 : fR az x y with
    | some r => exact List.mem_append_right _ (key az r h2)
    | none => exact absurd (by unfold chAt; rw [h1, h2]) h0
theorem chAt_one {bs az : List Rw} {x y : Int} {c : Chg} (h : chAt bs az x y = some c) : c.was = true ∨ c.is = true := by
  unfold chAt at h
  split at h
  · cases h
  · cases h; exact .inl rfl
  · cases h; exact .inr rfl
  · cases h; exact .inl rfl
theorem chK_nth {bs az : List Rw} {x y : Int} {c : Chg} (h : chAt bs az x y = some c) : chK bs az x y = if nthB c = true then none else some c := by
  unfold chK
  rw [h, nthB_no (chAt_one h)]
  cases hn : noB c <;> simp [Option.filter, hn]
theorem chK_sub {bs az : List Rw} {x y : Int} (h : (chK bs az x y).isSome = true) : (chF bs az x y).isSome = true := by
  unfold chK at h
  unfold chF
  cases hc : chAt bs az x y with
  | none => rw [hc] at h; simp at h
  | some c => rfl
theorem chF_some {bs az : List Rw} {x y : Int} {v : Value} (h : chF bs az x y = some v) : ∃ c, v = chV c := by
  unfold chF at h
  obtain ⟨c, _, e⟩ := Option.map_eq_some_iff.1 h
  exact ⟨c, e.symm⟩
def zCh : Chg := ⟨false, zR, false, zR⟩

end Go.Proofs.Ythhkgpflodeleaa
