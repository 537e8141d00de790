/-
  The changes between rows, plainly, in the order of their keys.
-/
import Derived.Test.YtonngopnhpmjaaaECbw
import Derived.Test.YtonngopnhpmjaaaESrw

namespace Go.Proofs.Ytonngopnhpmjaaa
open Go.RowKit Go.Maps
set_option linter.unusedVariables false

theorem uniq_of {rs : List Rw} (h : rs.Pairwise rLt) : Uniq rs := h.imp fun {a b} h1 h2 => by unfold rLt at h1; omega

theorem fR_mem {rs : List Rw} {t k : Int} {r : Rw} (h : fR rs t k = some r) : r ∈ rs ∧ r.t = t ∧ r.k = k := by
  unfold fR at h
  have h2 := List.find?_some h
  simp at h2
  exact ⟨List.mem_of_find?_eq_some h, h2.1, h2.2⟩
theorem fR_none {rs : List Rw} {t k : Int} : fR rs t k = none ↔ ∀ x ∈ rs, ¬ (x.t = t ∧ x.k = k) := by
  unfold fR
  rw [List.find?_eq_none]
  simp
theorem uniq_eq {rs : List Rw} (hu : Uniq rs) {i j : Nat} {x y : Rw} (hx : rs[i]? = some x) (hy : rs[j]? = some y) (h : x.t = y.t ∧ x.k = y.k) : i = j := by
  obtain ⟨hi, e1⟩ := List.getElem?_eq_some_iff.1 hx
  obtain ⟨hj, e2⟩ := List.getElem?_eq_some_iff.1 hy
  rcases Nat.lt_trichotomy i j with hl | hl | hl
  · have := List.pairwise_iff_getElem.1 hu i j hi hj hl
    rw [e1, e2] at this; exact absurd h this
  · exact hl
  · have := List.pairwise_iff_getElem.1 hu j i hj hi hl
    rw [e1, e2] at this; exact absurd ⟨h.1.symm, h.2.symm⟩ this
theorem atP_uniq {rs : List Rw} (hu : Uniq rs) {t k r r' : Int} (h : AtP rs t k r) (h' : AtP rs t k r') : r = r' := by
  rcases h with ⟨rfl, h⟩ | ⟨i, x, rfl, hx, e1, e2⟩
  · rcases h' with ⟨rfl, _⟩ | ⟨j, y, rfl, hy, f1, f2⟩
    · rfl
    · exact absurd ⟨f1, f2⟩ (h y (List.mem_of_getElem? hy))
  · rcases h' with ⟨rfl, h'⟩ | ⟨j, y, rfl, hy, f1, f2⟩
    · exact absurd ⟨e1, e2⟩ (h' x (List.mem_of_getElem? hx))
    · rw [uniq_eq hu hx hy ⟨e1.trans f1.symm, e2.trans f2.symm⟩]
theorem atP_ex (rs : List Rw) (t k : Int) : ∃ r, AtP rs t k r := by
  by_cases h : ∃ x ∈ rs, x.t = t ∧ x.k = k
  · obtain ⟨x, hx, e⟩ := h
    obtain ⟨i, hi⟩ := List.getElem?_of_mem hx
    exact ⟨i, .inr ⟨i, x, rfl, hi, e.1, e.2⟩⟩
  · exact ⟨-1, .inl ⟨rfl, fun x hx e => h ⟨x, hx, e⟩⟩⟩
/-- What l6At tells, and the row of that key. -/
theorem AtP.f {rs : List Rw} (hu : Uniq rs) {t k r : Int} (h : AtP rs t k r) : (r = -1 ∧ fR rs t k = none) ∨ ∃ (i : Nat) (x : Rw), r = i ∧ rs[i]? = some x ∧ fR rs t k = some x := by
  rcases h with ⟨rfl, h⟩ | ⟨i, x, rfl, hx, e1, e2⟩
  · exact .inl ⟨rfl, fR_none.2 h⟩
  · refine .inr ⟨i, x, rfl, hx, ?_⟩
    cases hf : fR rs t k with
    | none => exact absurd ⟨e1, e2⟩ (fR_none.1 hf x (List.mem_of_getElem? hx))
    | some y =>
      obtain ⟨hm, f1, f2⟩ := fR_mem hf
      obtain ⟨j, hj⟩ := List.getElem?_of_mem hm
      have := uniq_eq hu hx hj ⟨e1.trans f1.symm, e2.trans f2.symm⟩
      subst this
      rw [hx] at hj; exact hj.symm

/-- rs: the rows of bs, and those of xs whose key bs has not, rising. -/
def KeyL (bs xs rs : List Rw) : Prop := rs.Perm (bs ++ xs.filter fun r => (fR bs r.t r.k).isNone) ∧ rs.Pairwise rLt

theorem KeyL.skip {bs az rs : List Rw} {j : Nat} {x y : Rw} (h : KeyL bs (az.take j) rs) (hx : az[j]? = some x) (hf : fR bs x.t x.k = some y) : KeyL bs (az.take (j + 1)) rs := by
  refine ⟨?_, h.2⟩
  rw [take_snoc hx, List.filter_append]
  have : [x].filter (fun r => (fR bs r.t r.k).isNone) = [] := by simp [hf]
  rw [this, List.append_nil]
  exact h.1
theorem KeyL.put {bs az rs new : List Rw} {j : Nat} {x : Rw} (h : KeyL bs (az.take j) rs) (hu : Uniq az) (hx : az[j]? = some x) (hf : fR bs x.t x.k = none) (hp : PutAt rs x new) : KeyL bs (az.take (j + 1)) new := by
  refine ⟨?_, hp.sorted h.2 fun r hr e => ?_⟩
  · rw [take_snoc hx, List.filter_append]
    have : [x].filter (fun r => (fR bs r.t r.k).isNone) = [x] := by simp [hf]
    rw [this, ← List.append_assoc]
    refine hp.perm.trans ((List.Perm.cons _ h.1).trans ?_)
    exact (List.perm_append_singleton x _).symm
  · rcases List.mem_append.1 (h.1.mem_iff.1 hr) with hr | hr
    · exact fR_none.1 hf r hr e
    · have hr := (List.mem_filter.1 hr).1
      obtain ⟨i, hi⟩ := List.getElem?_of_mem hr
      have hij : i < j := by
        have := (List.getElem?_eq_some_iff.1 hi).1
        rw [List.length_take] at this
        omega
      rw [List.getElem?_take, if_pos hij] at hi
      have := uniq_eq hu hi hx e
      omega
theorem KeyL.len {bs xs rs : List Rw} (h : KeyL bs xs rs) : rs.length ≤ bs.length + xs.length := by
  rw [h.1.length_eq, List.length_append]
  have := List.length_filter_le (fun r => (fR bs r.t r.k).isNone) xs
  omega
theorem KeyL.key {bs xs rs : List Rw} (h : KeyL bs xs rs) {x : Rw} (hx : x ∈ rs) : x ∈ bs ∨ x ∈ xs := by
  rcases List.mem_append.1 (h.1.mem_iff.1 hx) with hr | hr
  · exact .inl hr
  · exact .inr (List.mem_filter.1 hr).1
theorem KeyL.some {bs az rs : List Rw} (h : KeyL bs az rs) {x : Rw} (hx : x ∈ rs) : ¬ (fR bs x.t x.k = none ∧ fR az x.t x.k = none) := by
  intro ⟨h1, h2⟩
  rcases h.key hx with hx | hx
  · exact fR_none.1 h1 x hx ⟨rfl, rfl⟩
  · exact fR_none.1 h2 x hx ⟨rfl, rfl⟩
theorem KeyL.has {bs az rs : List Rw} (h : KeyL bs az rs) {t k : Int} (hm : (t, k) ∈ bs.map (fun r => (r.t, r.k)) ++ az.map (fun r => (r.t, r.k))) : ∃ x ∈ rs, x.t = t ∧ x.k = k := by
  rcases List.mem_append.1 hm with hm | hm
  · obtain ⟨x, hx, e⟩ := List.mem_map.1 hm
    cases e
    exact ⟨x, h.1.mem_iff.2 (List.mem_append_left _ hx), rfl, rfl⟩
  · obtain ⟨x, hx, e⟩ := List.mem_map.1 hm
    cases e
    cases hf : fR bs x.t x.k with
    | none => exact ⟨x, h.1.mem_iff.2 (List.mem_append_right _ (List.mem_filter.2 ⟨hx, by simp [hf]⟩)), rfl, rfl⟩
    | some y =>
      obtain ⟨hy, e1, e2⟩ := fR_mem hf
      exact ⟨y, h.1.mem_iff.2 (List.mem_append_left _ hy), e1, e2⟩

/-- The changes of rows, in the order of their keys. -/
def chL (bs az ks : List Rw) : List Chg := ks.filterMap fun r => chK bs az r.t r.k
theorem chL_snoc {bs az ks : List Rw} {j : Nat} {x : Rw} (hx : ks[j]? = some x) : chL bs az (ks.take (j + 1)) = chL bs az (ks.take j) ++ (chK bs az x.t x.k).toList := by
  unfold chL
  rw [take_snoc hx, List.filterMap_append]
  congr 1

theorem filterMap_some {α β : Type} (f : α → Option β) (l : List α) : (l.filterMap f).map Option.some = (l.filter fun x => (f x).isSome).map f := by
  induction l with
  | nil => rfl
  | cons x l ih =>
    cases h : f x with
    | none => simp [h, ih]
    | some y => simp [h, ih]

/-- Both tell the same changes. -/
theorem chL_unique {bs az ks : List Rw} {ys : List K2} {cs : List Chg} (h : KeyL bs az ks) (hk : ∀ r ∈ bs, Kw r.t r.k) (hk' : ∀ r ∈ az, Kw r.t r.k) (hr : Rise ys) (hd : ys.Nodup) (hm : ∀ x : K2, x ∈ ys ↔ (chK bs az x.x x.y).isSome = true) (hc : cs.map Option.some = ys.map fun x => chK bs az x.x x.y) : cs = chL bs az ks := by
  have hkw : ∀ x ∈ ks, Kw x.t x.k := fun x hx => (h.key hx).elim (hk x) (hk' x)
  have hP1 : ((ks.filter fun r => (chK bs az r.t r.k).isSome).map fun r => (r.t, r.k)).Pairwise fun a b : Int × Int => a.1 < b.1 ∨ (a.1 = b.1 ∧ a.2 < b.2) := by
    rw [List.pairwise_map]
    exact (h.2.sublist List.filter_sublist).imp fun {a b} h => h
  have hP2 : (ys.map k2P).Pairwise fun a b : Int × Int => a.1 < b.1 ∨ (a.1 = b.1 ∧ a.2 < b.2) := by
    rw [List.pairwise_map]
    refine (rise_lt hr hd).imp fun {a b} h => ?_
    unfold ltK at h
    simpa [k2P] using h
  have nd : ∀ l : List (Int × Int), (l.Pairwise fun a b : Int × Int => a.1 < b.1 ∨ (a.1 = b.1 ∧ a.2 < b.2)) → l.Nodup := fun l hl => hl.imp fun {a b} h e => by subst e; omega
  have hE : ys.map k2P = (ks.filter fun r => (chK bs az r.t r.k).isSome).map fun r => (r.t, r.k) := by
    refine List.Perm.eq_of_pairwise (le := fun a b : Int × Int => a.1 < b.1 ∨ (a.1 = b.1 ∧ a.2 < b.2)) (fun a b _ _ h1 h2 => by omega) hP2 hP1 ((List.perm_ext_iff_of_nodup (nd _ hP2) (nd _ hP1)).2 fun q => ?_)
    constructor
    · intro hq
      obtain ⟨x, hx, rfl⟩ := List.mem_map.1 hq
      have hs := (hm x).1 hx
      obtain ⟨z, hz, e1, e2⟩ := h.has (chK_mem hs)
      exact List.mem_map.2 ⟨z, List.mem_filter.2 ⟨hz, by rw [e1, e2]; exact hs⟩, by unfold k2P; rw [e1, e2]⟩
    · intro hq
      obtain ⟨z, hz, rfl⟩ := List.mem_map.1 hq
      obtain ⟨hz, hs⟩ := List.mem_filter.1 hz
      exact List.mem_map.2 ⟨⟨z.t, z.k, hkw z hz⟩, (hm _).2 hs, rfl⟩
  have h1 : cs.map Option.some = (chL bs az ks).map Option.some := by
    unfold chL
    rw [hc, filterMap_some]
    have e1 : (ys.map fun x => chK bs az x.x x.y) = (ys.map k2P).map fun q => chK bs az q.1 q.2 := by rw [List.map_map]; rfl
    rw [e1, hE, List.map_map]; rfl
  have h2 := congrArg (List.filterMap id) h1
  simpa using h2

theorem putAt_ex (r : Rw) : ∀ rs : List Rw, ∃ new, PutAt rs r new
  | [] => ⟨_, 0, Nat.le_refl _, by simp, by simp, rfl⟩
  | x :: l => by
    by_cases h : rLt x r
    · obtain ⟨_, j, h1, h2, h3, _⟩ := putAt_ex r l
      refine ⟨_, j + 1, by simpa using h1, ?_, ?_, rfl⟩
      · intro y hy
        rw [List.take_succ_cons] at hy
        rcases List.mem_cons.1 hy with rfl | hy
        · exact h
        · exact h2 y hy
      · intro y hy
        rw [List.getElem?_cons_succ] at hy
        exact h3 y hy
    · refine ⟨_, 0, Nat.zero_le _, by simp, ?_, rfl⟩
      intro y hy
      simp at hy
      subst hy
      exact h
theorem keyL_ex (bs az : List Rw) (hs : bs.Pairwise rLt) (hu : Uniq az) : ∃ ks, KeyL bs az ks := by
  have key : ∀ j, j ≤ az.length → ∃ ks, KeyL bs (az.take j) ks := by
    intro j
    induction j with
    | zero => exact fun _ => ⟨bs, by simp, hs⟩
    | succ j ih =>
      intro hj
      obtain ⟨ks, hk⟩ := ih (by omega)
      have hx : az[j]? = some az[j] := List.getElem?_eq_getElem (by omega)
      cases hf : fR bs az[j].t az[j].k with
      | none =>
        obtain ⟨new, hn⟩ := putAt_ex az[j] ks
        exact ⟨new, hk.put hu hx hf hn⟩
      | some y => exact ⟨ks, hk.skip hx hf⟩
  obtain ⟨ks, hk⟩ := key az.length (Nat.le_refl _)
  rw [List.take_length] at hk
  exact ⟨ks, hk⟩

end Go.Proofs.Ytonngopnhpmjaaa
