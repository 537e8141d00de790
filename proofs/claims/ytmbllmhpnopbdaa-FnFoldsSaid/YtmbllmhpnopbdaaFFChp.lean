/-
  The changes between rows, plainly, in the order of their keys.
-/
import Derived.Test.YtmbllmhpnopbdaaFFRkd
import Derived.Test.YtmbllmhpnopbdaaFFIac
import Derived.Test.YtmbllmhpnopbdaaFFLky
import Derived.Test.YtmbllmhpnopbdaaFFLac

namespace Go.Proofs.Ytmbllmhpnopbdaa
open Go.RowKit Go.Maps
set_option linter.unusedVariables false

/-- rs: the rows of bs, and those of xs whose key bs has not, rising. -/
def KeyL (bs xs rs : List Rw) : Prop := rs.Perm (bs ++ xs.filter fun r => (fR bs r.t r.k).isNone) ∧ rs.Pairwise rLt

theorem KeyL.skip {bs az rs : List Rw} {j : Nat} {x y : Rw} (h : KeyL bs (az.take j) rs) (hx : az[j]? = some x) (hf : fR bs x.t x.k = some y) : KeyL bs (az.take (j + 1)) rs := by
  refine ⟨?_, h.2⟩
  rw [take_snoc hx, List.filter_append]
  have : [x].filter (fun r => (fR bs r.t r.k).isNone) = [] := by simp [hf]
  rw [this, List.append_nil]
  exact h.1
theorem KeyL.put {bs az rs new : List Rw} {j : Nat} {x : Rw} (h : KeyL bs (az.take j) rs) (hu : Uniq az) (hx : az[j]? = some x) (hf : fR bs x.t x.k = none) (hp : PutAt rs x new) : KeyL bs (az.take (j + 1)) new := by
  refine ⟨?_, hp.sorted h.2 fun r hr e => ?_⟩
  · rw [take_snoc hx, List.filter_append]
    have : [x].filter (fun r => (fR bs r.t r.k).isNone) = [x] := by simp [hf]
    rw [this, ← List.append_assoc]
    refine hp.perm.trans ((List.Perm.cons _ h.1).trans ?_)
    exact (List.perm_append_singleton x _).symm
  · rcases List.mem_append.1 (h.1.mem_iff.1 hr) with hr | hr
    · exact fR_none.1 hf r hr e
    · have hr := (List.mem_filter.1 hr).1
      obtain ⟨i, hi⟩ := List.getElem?_of_mem hr
      have hij : i < j := by
        have := (List.getElem?_eq_some_iff.1 hi).1
        rw [List.length_take] at this
        omega
      rw [List.getElem?_take, if_pos hij] at hi
      have := uniq_eq hu hi hx e
      omega
theorem KeyL.len {bs xs rs : List Rw} (h : KeyL bs xs rs) : rs.length ≤ bs.length + xs.length := by
  rw [h.1.length_eq, List.length_append]
  have := List.length_filter_le (fun r => (fR bs r.t r.k).isNone) xs
  omega
theorem KeyL.key {bs xs rs : List Rw} (h : KeyL bs xs rs) {x : Rw} (hx : x ∈ rs) : x ∈ bs ∨ x ∈ xs := by
  rcases List.mem_append.1 (h.1.mem_iff.1 hx) with hr | hr
  · exact .inl hr
  · exact .inr (List.mem_filter.1 hr).1
theorem KeyL.some {bs az rs : List Rw} (h : KeyL bs az rs) {x : Rw} (hx : x ∈ rs) : ¬ (fR bs x.t x.k = none ∧ fR az x.t x.k = none) := by
  intro ⟨h1, h2⟩
  rcases h.key hx with hx | hx
  · exact fR_none.1 h1 x hx ⟨rfl, rfl⟩
  · exact fR_none.1 h2 x hx ⟨rfl, rfl⟩
theorem KeyL.has {bs az rs : List Rw} (h : KeyL bs az rs) {t k : Int} (hm : (t, k) ∈ bs.map (fun r => (r.t, r.k)) ++ az.map (fun r => (r.t, r.k))) : ∃ x ∈ rs, x.t = t ∧ x.k = k := by
  rcases List.mem_append.1 hm with hm | hm
  · obtain ⟨x, hx, e⟩ := List.mem_map.1 hm
    cases e
    exact ⟨x, h.1.mem_iff.2 (List.mem_append_left _ hx), rfl, rfl⟩
  · obtain ⟨x, hx, e⟩ := List.mem_map.1 hm
    cases e
    cases hf : fR bs x.t x.k with
    | none => exact ⟨x, h.1.mem_iff.2 (List.mem_append_right _ (List.mem_filter.2 ⟨hx, by simp [hf]⟩)), rfl, rfl⟩
    | some y =>
      obtain ⟨hy, e1, e2⟩ := fR_mem hf
      exact ⟨y, h.1.mem_iff.2 (List.mem_append_left _ hy), e1, e2⟩

/-- The changes of rows, in the order of their keys. -/
def chL (bs az ks : List Rw) : List Chg := ks.filterMap fun r => chK bs az r.t r.k
theorem chL_snoc {bs az ks : List Rw} {j : Nat} {x : Rw} (hx : ks[j]? = some x) : chL bs az (ks.take (j + 1)) = chL bs az (ks.take j) ++ (chK bs az x.t x.k).toList := by
  unfold chL
  rw [take_snoc hx, List.filterMap_append]
  congr 1

theorem filterMap_some {α β : Type} (f : α → Option β) (l : List α) : (l.filterMap f).map Option.some = (l.filter fun x => (f x).isSome).map f := by
  induction l with
  | nil => rfl
  | cons x l ih =>
    cases h : f x with
    | none => simp [h, ih]
    | some y => simp [h, ih]

/-- Both tell the same changes. -/
theorem chL_unique {bs az ks : List Rw} {ys : List K3} {cs : List Chg} (h : KeyL bs az ks) (hk : ∀ r ∈ bs, Kw r.t r.k) (hk' : ∀ r ∈ az, Kw r.t r.k) (hr : Rise ys) (hd : ys.Nodup) (hm : ∀ x : K3, x ∈ ys ↔ (chK bs az x.x x.y).isSome = true) (hc : cs.map Option.some = ys.map fun x => chK bs az x.x x.y) : cs = chL bs az ks := by
  have hkw : ∀ x ∈ ks, Kw x.t x.k := fun x hx => (h.key hx).elim (hk x) (hk' x)
  have hP1 : ((ks.filter fun r => (chK bs az r.t r.k).isSome).map fun r => (r.t, r.k)).Pairwise fun a b : Int × Int => a.1 < b.1 ∨ (a.1 = b.1 ∧ a.2 < b.2) := by
    rw [List.pairwise_map]
    exact (h.2.sublist List.filter_sublist).imp fun {a b} h => h
  have hP2 : (ys.map k2P).Pairwise fun a b : Int × Int => a.1 < b.1 ∨ (a.1 = b.1 ∧ a.2 < b.2) := by
    rw [List.pairwise_map]
    refine (rise_lt hr hd).imp fun {a b} h => ?_
    unfold ltK at h
    simpa [k2P] using h
  have nd : ∀ l : List (Int × Int), (l.Pairwise fun a b : Int × Int => a.1 < b.1 ∨ (a.1 = b.1 ∧ a.2 < b.2)) → l.Nodup := fun l hl => hl.imp fun {a b} h e => by subst e; omega
  have hE : ys.map k2P = (ks.filter fun r => (chK bs az r.t r.k).isSome).map fun r => (r.t, r.k) := by
    refine List.Perm.eq_of_pairwise (le := fun a b : Int × Int => a.1 < b.1 ∨ (a.1 = b.1 ∧ a.2 < b.2)) (fun a b _ _ h1 h2 => by omega) hP2 hP1 ((List.perm_ext_iff_of_nodup (nd _ hP2) (nd _ hP1)).2 fun q => ?_)
    constructor
    · intro hq
      obtain ⟨x, hx, rfl⟩ := List.mem_map.1 hq
      have hs := (hm x).1 hx
      obtain ⟨z, hz, e1, e2⟩ := h.has (chK_mem hs)
      exact List.mem_map.2 ⟨z, List.mem_filter.2 ⟨hz, by rw [e1, e2]; exact hs⟩, by unfold k2P; rw [e1, e2]⟩
    · intro hq
      obtain ⟨z, hz, rfl⟩ := List.mem_map.1 hq
      obtain ⟨hz, hs⟩ := List.mem_filter.1 hz
      exact List.mem_map.2 ⟨⟨z.t, z.k, hkw z hz⟩, (hm _).2 hs, rfl⟩
  have h1 : cs.map Option.some = (chL bs az ks).map Option.some := by
    unfold chL
    rw [hc, filterMap_some]
    have e1 : (ys.map fun x => chK bs az x.x x.y) = (ys.map k2P).map fun q => chK bs az q.1 q.2 := by rw [List.map_map]; rfl
    rw [e1, hE, List.map_map]; rfl
  have h2 := congrArg (List.filterMap id) h1
  simpa using h2

theorem keyL_ex (bs az : List Rw) (hs : bs.Pairwise rLt) (hu : Uniq az) : ∃ ks, KeyL bs az ks := by
  have key : ∀ j, j ≤ az.length → ∃ ks, KeyL bs (az.take j) ks := by
    intro j
    induction j with
    | zero => exact fun _ => ⟨bs, by simp, hs⟩
    | succ j ih =>
      intro hj
      obtain ⟨ks, hk⟩ := ih (by omega)
      have hx : az[j]? = some az[j] := List.getElem?_eq_getElem (by omega)
      cases hf : fR bs az[j].t az[j].k with
      | none =>
        obtain ⟨new, hn⟩ := putAt_ex az[j] ks
        exact ⟨new, hk.put hu hx hf hn⟩
      | some y => exact ⟨ks, hk.skip hx hf⟩
  obtain ⟨ks, hk⟩ := key az.length (Nat.le_refl _)
  rw [List.take_length] at hk
  exact ⟨ks, hk⟩

end Go.Proofs.Ytmbllmhpnopbdaa

/-
  Picked.
-/
namespace Go.Proofs.Ytmbllmhpnopbdaa
open Go.RowKit Go.Maps
set_option linter.unusedVariables false

open Go.RowKit Go.Maps
set_option linter.unusedVariables false

/-- The row ahead of a change and behind it. -/
def befR (c : Chg) : Option Rw := if c.was = true then some c.b else none
def aftR (c : Chg) : Option Rw := if c.is = true then some c.a else none
theorem rwEq_iff {a b : Rw} : rwEq a b = true ↔ a = b := by
  obtain ⟨t, k, v, s⟩ := a
  obtain ⟨t', k', v', s'⟩ := b
  unfold rwEq
  simp [and_assoc]
theorem fitB_of {rs : List Rw} {c : Chg} (h : fR rs (kT c) (kK c) = befR c) : fitB rs c = true := by
  unfold fitB
  rw [h]
  unfold befR
  cases hw : c.was
  · simp
  · simp [rwEq_iff.2 rfl]
/-- Changes of different keys, each of which fits: what is there behind them. -/
theorem apR_all : ∀ (cs : List Chg) (rs : List Rw), RisL rs → (∀ c ∈ cs, chQ c = 0) → cs.Pairwise (fun a b => ¬ (kT a = kT b ∧ kK a = kK b)) → (∀ c ∈ cs, fR rs (kT c) (kK c) = befR c) → ∃ L, apR rs cs = (0, L) ∧ RisL L ∧ (∀ c ∈ cs, fR L (kT c) (kK c) = aftR c) ∧ ∀ x y, (∀ c ∈ cs, ¬ (kT c = x ∧ kK c = y)) → fR L x y = fR rs x y
  | [], rs, h, _, _, _ => ⟨rs, rfl, h, by simp, fun _ _ _ => rfl⟩
  | c :: l, rs, h, hq, hp, hf => by
    obtain ⟨p1, p2⟩ := List.pairwise_cons.1 hp
    have q := hq c (by simp)
    obtain ⟨L, e, hL, h1, h2⟩ := apR_all l (doL rs c) (doL_ok h q) (fun d hd => hq d (by simp [hd])) p2 (fun d hd => by
      rw [fR_doL h q, if_neg (fun e => p1 d hd ⟨e.1.symm, e.2.symm⟩)]
      exact hf d (by simp [hd]))
    refine ⟨L, ?_, hL, fun d hd => ?_, fun x y hn => ?_⟩
    · rw [apR_cons, if_pos q, if_pos (fitB_of (hf c (by simp)))]; exact e
    · rcases List.mem_cons.1 hd with rfl | hd
      · rw [h2 _ _ (fun e he k => p1 e he ⟨k.1.symm, k.2.symm⟩), fR_doL h q, if_pos ⟨rfl, rfl⟩]; rfl
      · exact h1 d hd
    · rw [h2 x y (fun d hd => hn d (by simp [hd])), fR_doL h q, if_neg (fun e => hn c (by simp) ⟨e.1.symm, e.2.symm⟩)]
theorem ris_ext {rs rs' : List Rw} (h : RisL rs) (h' : RisL rs') (he : ∀ x y, fR rs x y = fR rs' x y) : rs = rs' := by
  have nd : ∀ l : List Rw, RisL l → l.Nodup := fun l hl => hl.1.imp fun {a b} h e => by subst e; unfold rLt at h; omega
  have key : ∀ (l : List Rw), RisL l → ∀ r, r ∈ l ↔ fR l r.t r.k = some r := fun l hl r => by
    constructor
    · intro hr
      obtain ⟨i, hi⟩ := List.getElem?_of_mem hr
      cases hf : fR l r.t r.k with
      | none => exact absurd ⟨rfl, rfl⟩ (fR_none.1 hf r hr)
      | some s =>
        obtain ⟨hs, e1, e2⟩ := fR_mem hf
        obtain ⟨j, hj⟩ := List.getElem?_of_mem hs
        have := uniq_eq (uniq_of hl.1) hi hj ⟨e1.symm, e2.symm⟩
        subst this
        rw [hi] at hj; exact hj.symm
    · exact fun h => (fR_mem h).1
  refine List.Perm.eq_of_pairwise (le := rLt) (fun a b _ _ h1 h2 => ?_) h.1 h'.1 ((List.perm_ext_iff_of_nodup (nd _ h) (nd _ h')).2 fun r => ?_)
  · unfold rLt at h1 h2; omega
  · rw [key _ h, key _ h', he]
theorem chQ_of {c : Chg} (h1 : c.was = true ∨ c.is = true) (h2 : c.was = true → c.is = true → c.b.t = c.a.t ∧ c.b.k = c.a.k) (h3 : c.was = true → rwF c.b = 0) (h4 : c.is = true → rwF c.a = 0) : chQ c = 0 := by
  unfold chQ
  rw [if_neg, if_neg]
  · by_cases hi : c.is = true
    · rw [if_pos hi]; exact h4 hi
    · rw [if_neg hi]
  · rintro ⟨hw, e⟩; exact e (h3 hw)
  · intro e
    cases hw : c.was <;> cases hi : c.is <;> rw [hw, hi] at e h1 h2 <;> simp at e h1 h2
    rcases e with e | e
    · exact e h2.1
    · exact e h2.2
end Go.Proofs.Ytmbllmhpnopbdaa
