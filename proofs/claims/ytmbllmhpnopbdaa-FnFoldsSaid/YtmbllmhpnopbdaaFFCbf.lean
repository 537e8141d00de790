/-
  Changes between rows, plainly; risingKeys of a map told by a function.
-/
import Derived.Test.YtmbllmhpnopbdaaFFChw
import Derived.Test.YtmbllmhpnopbdaaFFKvs
import Derived.Test.YtmbllmhpnopbdaaFFRwt
import Derived.Test.YtmbllmhpnopbdaaFFApn

namespace Go.Proofs.Ytmbllmhpnopbdaa
open Go.RowKit Go.Maps
set_option linter.unusedVariables false

def chV (x : Chg) : Value := .agg #[.bool x.was, .int .i64 x.b.t, .int .i64 x.b.k, .int .i64 x.b.v, .string x.b.s, .bool x.is, .int .i64 x.a.t, .int .i64 x.a.k, .int .i64 x.a.v, .string x.a.s]
def zR : Rw := ⟨0, 0, 0, ⟨#[]⟩⟩
/-- The row of a key. -/
def fR (rs : List Rw) (x y : Int) : Option Rw := rs.find? fun r => decide (r.t = x) && decide (r.k = y)
/-- The change at a key. -/
def chAt (bs az : List Rw) (x y : Int) : Option Chg := match fR bs x y, fR az x y with
  | none, none => none
  | some b, none => some ⟨true, b, false, zR⟩
  | none, some a => some ⟨false, zR, true, a⟩
  | some b, some a => some ⟨true, b, true, a⟩
def chF (bs az : List Rw) : Int → Int → Option Value := fun x y => (chAt bs az x y).map chV

/-- No two rows of one key. -/
def Uniq (rs : List Rw) : Prop := rs.Pairwise fun a b => ¬ (a.t = b.t ∧ a.k = b.k)

theorem fR_snoc (rs : List Rw) (r : Rw) (x y : Int) : fR (rs ++ [r]) x y = (fR rs x y).or (if r.t = x ∧ r.k = y then some r else none) := by
  unfold fR
  rw [List.find?_append]
  congr 1
  by_cases h : r.t = x ∧ r.k = y
  · simp [h]
  · rw [if_neg h]
    simp only [List.find?_cons, List.find?_nil]
    split
    · rename_i h1; simp at h1; exact absurd h1 h
    · rfl

theorem fR_new {rs : List Rw} {j : Nat} {r : Rw} (hu : Uniq rs) (hx : rs[j]? = some r) : fR (rs.take j) r.t r.k = none := by
  unfold fR
  rw [List.find?_eq_none]
  intro x hx' h
  simp at h
  obtain ⟨i, hi⟩ := List.getElem?_of_mem hx'
  have hij : i < j := by
    have := (List.getElem?_eq_some_iff.1 hi).1
    rw [List.length_take] at this
    omega
  rw [List.getElem?_take, if_pos hij] at hi
  have hil := (List.getElem?_eq_some_iff.1 hi)
  have hjl := (List.getElem?_eq_some_iff.1 hx)
  have := List.pairwise_iff_getElem.1 hu i j hil.1 hjl.1 hij
  rw [hil.2, hjl.2] at this
  exact this h

theorem chF_step1 {bs : List Rw} {j : Nat} {r : Rw} (hu : Uniq bs) (hx : bs[j]? = some r) : upd (chF (bs.take j) []) r.t r.k (some (chV ⟨true, r, false, zR⟩)) = chF (bs.take (j + 1)) [] := by
  funext x y
  unfold upd chF chAt
  rw [take_snoc hx, fR_snoc]
  have hn := fR_new hu hx
  by_cases h : x = r.t ∧ y = r.k
  · obtain ⟨rfl, rfl⟩ := h
    rw [if_pos ⟨rfl, rfl⟩, hn]
    simp [fR]
  · rw [if_neg h, if_neg (fun e => h ⟨e.1.symm, e.2.symm⟩), Option.or_none]

theorem chF_step2 {bs az : List Rw} {j : Nat} {r : Rw} (hu : Uniq az) (hx : az[j]? = some r) : upd (chF bs (az.take j)) r.t r.k (some (chV { (chAt bs (az.take j) r.t r.k).getD ⟨false, zR, false, zR⟩ with is := true, a := r })) = chF bs (az.take (j + 1)) := by
  funext x y
  unfold upd chF
  have hn := fR_new hu hx
  by_cases h : x = r.t ∧ y = r.k
  · obtain ⟨rfl, rfl⟩ := h
    rw [if_pos ⟨rfl, rfl⟩]
    unfold chAt
    rw [take_snoc hx, fR_snoc, hn]
    cases fR bs r.t r.k <;> simp
  · rw [if_neg h]
    unfold chAt
    rw [take_snoc hx, fR_snoc, if_neg (fun e => h ⟨e.1.symm, e.2.symm⟩), Option.or_none]

/-- What is left of the changes. -/
def chK (bs az : List Rw) (x y : Int) : Option Chg := (chAt bs az x y).filter fun c => !noB c
theorem chK_mem {bs az : List Rw} {x y : Int} (h : (chK bs az x y).isSome = true) : (x, y) ∈ bs.map (fun r => (r.t, r.k)) ++ az.map (fun r => (r.t, r.k)) := by
  have key : ∀ (rs : List Rw) (r : Rw), fR rs x y = some r → (x, y) ∈ rs.map (fun r => (r.t, r.k)) := fun rs r hr => by
    unfold fR at hr
    have h1 := List.mem_of_find?_eq_some hr
    have h2 := List.find?_some hr
    simp at h2
    exact List.mem_map.2 ⟨r, h1, by rw [h2.1, h2.2]⟩
  have h0 : chAt bs az x y ≠ none := by
    intro e
    unfold chK at h
    rw [e] at h
    simp at h
  cases h1 : fR bs x y with
  | some r => exact List.mem_append_left _ (key bs r h1)
  | none =>
    cases h2 : fR az x y with
    | some r => exact List.mem_append_right _ (key az r h2)
    | none => exact absurd (by unfold chAt; rw [h1, h2]) h0
theorem chF_mem {bs az : List Rw} {x y : Int} (h : (chF bs az x y).isSome = true) : (x, y) ∈ bs.map (fun r => (r.t, r.k)) ++ az.map (fun r => (r.t, r.k)) := by
  have key : ∀ (rs : List Rw) (r : Rw), fR rs x y = some r → (x, y) ∈ rs.map (fun r => (r.t, r.k)) := fun rs r hr => by
    unfold fR at hr
    have h1 := List.mem_of_find?_eq_some hr
    have h2 := List.find?_some hr
    simp at h2
    exact List.mem_map.2 ⟨r, h1, by rw [h2.1, h2.2]⟩
  have h0 : chAt bs az x y ≠ none := by
    intro e
    unfold chF at h
    rw [e] at h
    simp at h
  cases h1 : fR bs x y with
  | some r => exact List.mem_append_left _ (key bs r h1)
  | none =>
    cases h2 : fR az x y with
    | some r => exact List.mem_append_right _ (key az r h2)
    | none => exact absurd (by unfold chAt; rw [h1, h2]) h0
theorem chAt_one {bs az : List Rw} {x y : Int} {c : Chg} (h : chAt bs az x y = some c) : c.was = true ∨ c.is = true := by
  unfold chAt at h
  split at h
  · cases h
  · cases h; exact .inl rfl
  · cases h; exact .inr rfl
  · cases h; exact .inl rfl
theorem chK_nth {bs az : List Rw} {x y : Int} {c : Chg} (h : chAt bs az x y = some c) : chK bs az x y = if nthB c = true then none else some c := by
  unfold chK
  rw [h, nthB_no (chAt_one h)]
  cases hn : noB c <;> simp [Option.filter, hn]
theorem chK_sub {bs az : List Rw} {x y : Int} (h : (chK bs az x y).isSome = true) : (chF bs az x y).isSome = true := by
  unfold chK at h
  unfold chF
  cases hc : chAt bs az x y with
  | none => rw [hc] at h; simp at h
  | some c => rfl
theorem chF_some {bs az : List Rw} {x y : Int} {v : Value} (h : chF bs az x y = some v) : ∃ c, v = chV c := by
  unfold chF at h
  obtain ⟨c, _, e⟩ := Option.map_eq_some_iff.1 h
  exact ⟨c, e.symm⟩
def zCh : Chg := ⟨false, zR, false, zR⟩

end Go.Proofs.Ytmbllmhpnopbdaa

/-
  Rows that rise; an answer of rows, new.
-/
namespace Go.Proofs.Ytmbllmhpnopbdaa
open Go.RowKit Go.Maps
set_option linter.unusedVariables false

theorem elW : ElT 34 26 rwE 4 40 where
  und := Try.underlying34
  inf := by obtain ⟨i, h1, h2, h3, h4⟩ := info35; exact ⟨i, _, h1, h2, h3, h4, rfl⟩
  len := rwE_len
  one := by intro x u hu; simp [rwE] at hu; rcases hu with rfl | rfl | rfl | rfl <;> rfl
  pos := by decide
  few := by decide
/-- One row ahead of another. -/
def rLt (a b : Rw) : Prop := a.t < b.t ∨ (a.t = b.t ∧ a.k < b.k)
structure RsO (w : World) (b : Nat) : Prop where
  c0 : w.cell? ⟨b, 0, none⟩ = some (.int .i64 0)
  c1 : w.cell? ⟨b, 1, none⟩ = some (.slice none 0 0)
  f0 : w.frozen? ⟨b, 0, none⟩ = false
  f1 : w.frozen? ⟨b, 1, none⟩ = false
theorem RsO.below {w w' : World} {b : Nat} (h : RsO w b) {B : Nat} (hb : Below B w w') (hl : b < B) : RsO w' b :=
  ⟨(hb.cell (p := ⟨b, 0, none⟩) hl).trans h.c0, (hb.cell (p := ⟨b, 1, none⟩) hl).trans h.c1, (hb.frozen (p := ⟨b, 0, none⟩) hl).trans h.f0, (hb.frozen (p := ⟨b, 1, none⟩) hl).trans h.f1⟩
theorem RsO.new (w : World) : RsO (w.alloc (.cells #[.int .i64 0, .slice none 0 0] 36)) w.heap.size :=
  ⟨by simp [go_sem], by simp [go_sem], by simp [go_sem], by simp [go_sem]⟩
theorem ownsRow_lit0 (w : World) (e size : Nat) : (w.alloc (.cells #[] e)).ownsRow w.heap.size e size (.slice (some ⟨w.heap.size, 0, none⟩) 0 0) 0 [] := by
  refine ⟨by simp, .inr ⟨w.heap.size, 0, #[], rfl, Nat.le_refl _, heap_alloc_new w _, Nat.le_refl _, by unfold maxLen; omega, by simp, by simp⟩⟩

end Go.Proofs.Ytmbllmhpnopbdaa
