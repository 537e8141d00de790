/-
  Changes of rows done and taken back, plainly.
-/
import Derived.Test.YthhkgpflodeleaaFCChc
import Derived.Test.YthhkgpflodeleaaFCLac
import Derived.Test.YthhkgpflodeleaaFCInv

namespace Go.Proofs.Ythhkgpflodeleaa
open Go.RowKit Go.Maps
set_option linter.unusedVariables false

/-- The row ahead of a change and behind it. -/
def befR (c : Chg) : Option Rw := if c.was = true then some c.b else none
def aftR (c : Chg) : Option Rw := if c.is = true then some c.a else none
theorem rwEq_iff {a b : Rw} : rwEq a b = true ↔ a = b := by
  obtain ⟨t, k, v, s⟩ := a
  obtain ⟨t', k', v', s'⟩ := b
  unfold rwEq
  simp [and_assoc]
theorem fitB_of {rs : List Rw} {c : Chg} (h : fR rs (kT c) (kK c) = befR c) : fitB rs c = true := by
  unfold fitB
  rw [h]
  unfold befR
  cases hw : c.was
  · simp
  · simp [rwEq_iff.2 rfl]
/-- Changes of different keys, each of which fits: what is there behind them. -/
theorem apR_all : ∀ (cs : List Chg) (rs : List Rw), RisL rs → (∀ c ∈ cs, chQ c = 0) → cs.Pairwise (fun a b => ¬ (kT a = kT b ∧ kK a = kK b)) → (∀ c ∈ cs, fR rs (kT c) (kK c) = befR c) → ∃ L, apR rs cs = (0, L) ∧ RisL L ∧ (∀ c ∈ cs, fR L (kT c) (kK c) = aftR c) ∧ ∀ x y, (∀ c ∈ cs, ¬ (kT c = x ∧ kK c = y)) → fR L x y = fR rs x y
  | [], rs, h, _, _, _ => ⟨rs, rfl, h, by simp, fun _ _ _ => rfl⟩
  | c :: l, rs, h, hq, hp, hf => by
    obtain ⟨p1, p2⟩ := List.pairwise_cons.1 hp
    have q := hq c (by simp)
    obtain ⟨L, e, hL, h1, h2⟩ := apR_all l (doL rs c) (doL_ok h q) (fun d hd => hq d (by simp [hd])) p2 (fun d hd => by
      rw [fR_doL h q, if_neg (fun e => p1 d hd ⟨e.1.symm, e.2.symm⟩)]
      exact hf d (by simp [hd]))
    refine ⟨L, ?_, hL, fun d hd => ?_, fun x y hn => ?_⟩
    · rw [apR_cons, if_pos q, if_pos (fitB_of (hf c (by simp)))]; exact e
    · rcases List.mem_cons.1 hd with rfl | hd
      · rw [h2 _ _ (fun e he k => p1 e he ⟨k.1.symm, k.2.symm⟩), fR_doL h q, if_pos ⟨rfl, rfl⟩]; rfl
      · exact h1 d hd
    · rw [h2 x y (fun d hd => hn d (by simp [hd])), fR_doL h q, if_neg (fun e => hn c (by simp) ⟨e.1.symm, e.2.symm⟩)]
theorem ris_ext {rs rs' : List Rw} (h : RisL rs) (h' : RisL rs') (he : ∀ x y, fR rs x y = fR rs' x y) : rs = rs' := by
  have nd : ∀ l : List Rw, RisL l → l.Nodup := fun l hl => hl.1.imp fun {a b} h e => by subst e; unfold rLt at h; omega
  have key : ∀ (l : List Rw), RisL l → ∀ r, r ∈ l ↔ fR l r.t r.k = some r := fun l hl r => by
    constructor
    · intro hr
      obtain ⟨i, hi⟩ := List.getElem?_of_mem hr
      cases hf : fR l r.t r.k with
      | none => exact absurd ⟨rfl, rfl⟩ (fR_none.1 hf r hr)
      | some s =>
        obtain ⟨hs, e1, e2⟩ := fR_mem hf
        obtain ⟨j, hj⟩ := List.getElem?_of_mem hs
        have := uniq_eq (uniq_of hl.1) hi hj ⟨e1.symm, e2.symm⟩
        subst this
        rw [hi] at hj; exact hj.symm
    · exact fun h => (fR_mem h).1
  refine List.Perm.eq_of_pairwise (le := rLt) (fun a b _ _ h1 h2 => ?_) h.1 h'.1 ((List.perm_ext_iff_of_nodup (nd _ h) (nd _ h')).2 fun r => ?_)
  · unfold rLt at h1 h2; omega
  · rw [key _ h, key _ h', he]
theorem chQ_of {c : Chg} (h1 : c.was = true ∨ c.is = true) (h2 : c.was = true → c.is = true → c.b.t = c.a.t ∧ c.b.k = c.a.k) (h3 : c.was = true → rwF c.b = 0) (h4 : c.is = true → rwF c.a = 0) : chQ c = 0 := by
  unfold chQ
  rw [if_neg, if_neg]
  · by_cases hi : c.is = true
    · rw [if_pos hi]; exact h4 hi
    · rw [if_neg hi]
  · rintro ⟨hw, e⟩; exact e (h3 hw)
  · intro e
    cases hw : c.was <;> cases hi : c.is <;> rw [hw, hi] at e h1 h2 <;> simp at e h1 h2
    rcases e with e | e
    · exact e h2.1
    · exact e h2.2
/-- What the change of a key tells. -/
theorem chAt_tell {bs az : List Rw} {x y : Int} {c : Chg} (h : chAt bs az x y = some c) : kT c = x ∧ kK c = y ∧ befR c = fR bs x y ∧ aftR c = fR az x y ∧ (c.was = true ∨ c.is = true) := by
  unfold chAt at h
  split at h
  · cases h
  · rename_i b h1 h2
    cases h
    obtain ⟨_, e1, e2⟩ := fR_mem h1
    exact ⟨e1, e2, by rw [h1]; rfl, by rw [h2]; rfl, .inl rfl⟩
  · rename_i a h1 h2
    cases h
    obtain ⟨_, e1, e2⟩ := fR_mem h2
    exact ⟨e1, e2, by rw [h1]; rfl, by rw [h2]; rfl, .inr rfl⟩
  · rename_i b a h1 h2
    cases h
    obtain ⟨_, e1, e2⟩ := fR_mem h2
    exact ⟨e1, e2, by rw [h1]; rfl, by rw [h2]; rfl, .inl rfl⟩
theorem chK_tell {bs az : List Rw} {x y : Int} {c : Chg} (h : chK bs az x y = some c) : chAt bs az x y = some c ∧ nthB c = false := by
  unfold chK at h
  obtain ⟨h1, h2⟩ := Option.filter_eq_some_iff.1 h
  exact ⟨h1, by rw [nthB_no (chAt_one h1)]; simpa using h2⟩
theorem chK_same {bs az : List Rw} {x y : Int} (h : chK bs az x y = none) : fR bs x y = fR az x y := by
  unfold chK at h
  cases hc : chAt bs az x y with
  | none =>
    unfold chAt at hc
    split at hc
    · rename_i h1 h2; rw [h1, h2]
    · cases hc
    · cases hc
    · cases hc
  | some c =>
    rw [hc] at h
    have hn : noB c = true := by simpa [Option.filter] using h
    obtain ⟨_, _, e1, e2, _⟩ := chAt_tell hc
    unfold noB at hn
    simp only [Bool.and_eq_true] at hn
    rw [← e1, ← e2]
    unfold befR aftR
    rw [if_pos hn.1.1, if_pos hn.1.2, rwEq_iff.1 hn.2]
theorem chK_self {bs : List Rw} {x y : Int} : chK bs bs x y = none := by
  unfold chK chAt
  cases h : fR bs x y with
  | none => rfl
  | some r =>
    have : rwEq r r = true := rwEq_iff.2 rfl
    simp [Option.filter, noB, this]
/-- The changes between rows without a fault: each alone, and all of them. -/
theorem chL_tell {bs az ks : List Rw} (hb : rowsQ bs = 0) (ha : rowsQ az = 0) (hk : KeyL bs az ks) : (∀ c ∈ chL bs az ks, chQ c = 0 ∧ nthB c = false ∧ befR c = fR bs (kT c) (kK c) ∧ aftR c = fR az (kT c) (kK c)) ∧ (chL bs az ks).Pairwise (fun a b => ¬ (kT a = kT b ∧ kK a = kK b)) ∧ ∀ x y, (∀ c ∈ chL bs az ks, ¬ (kT c = x ∧ kK c = y)) → fR bs x y = fR az x y := by
  have okF : ∀ {rs : List Rw}, rowsQ rs = 0 → ∀ r ∈ rs, rwF r = 0 := fun {rs} h => by
    unfold rowsQ at h
    split at h
    · exact absurd h (by decide)
    · exact (rsF_zero rs none h).1
  have hfb := okF hb
  have hfa := okF ha
  have tell : ∀ {x y : Int} {c : Chg}, chK bs az x y = some c → kT c = x ∧ kK c = y ∧ chQ c = 0 ∧ nthB c = false ∧ befR c = fR bs x y ∧ aftR c = fR az x y := fun {x y c} h => by
    obtain ⟨h1, h2⟩ := chK_tell h
    obtain ⟨e1, e2, e3, e4, h5⟩ := chAt_tell h1
    have m1 : c.was = true → c.b ∈ bs ∧ c.b.t = x ∧ c.b.k = y := fun hw => fR_mem (by rw [← e3]; unfold befR; rw [if_pos hw])
    have m2 : c.is = true → c.a ∈ az ∧ c.a.t = x ∧ c.a.k = y := fun hi => fR_mem (by rw [← e4]; unfold aftR; rw [if_pos hi])
    exact ⟨e1, e2, chQ_of h5 (fun hw hi => ⟨(m1 hw).2.1.trans (m2 hi).2.1.symm, (m1 hw).2.2.trans (m2 hi).2.2.symm⟩) (fun hw => hfb _ (m1 hw).1) (fun hi => hfa _ (m2 hi).1), h2, e3, e4⟩
  refine ⟨fun c hc => ?_, ?_, fun x y hn => ?_⟩
  · obtain ⟨r, hr, h⟩ := List.mem_filterMap.1 hc
    obtain ⟨e1, e2, e3, e4, e5, e6⟩ := tell h
    rw [e1, e2]
    exact ⟨e3, e4, e5, e6⟩
  · unfold chL
    rw [List.pairwise_filterMap]
    refine hk.2.imp fun {r s} hrs c hc d hd => ?_
    obtain ⟨e1, e2, _⟩ := tell hc
    obtain ⟨f1, f2, _⟩ := tell hd
    rw [e1, e2, f1, f2]
    unfold rLt at hrs
    omega
  · cases h : chK bs az x y with
    | none => exact chK_same h
    | some c =>
      obtain ⟨r, hr, e1, e2⟩ := hk.has (chK_mem (by rw [h]; rfl))
      obtain ⟨f1, f2, _⟩ := tell h
      exact absurd ⟨f1, f2⟩ (hn c (List.mem_filterMap.2 ⟨r, hr, by rw [e1, e2]; exact h⟩))
theorem ris_of {rs : List Rw} (h : rowsQ rs = 0) : RisL rs := (rowsQ_ris h).1
/-- Done: the rows behind. -/
theorem ch_done {bs az ks : List Rw} (hb : rowsQ bs = 0) (ha : rowsQ az = 0) (hk : KeyL bs az ks) : acQ bs (chL bs az ks) = 0 ∧ acL bs (chL bs az ks) = az := by
  obtain ⟨h1, h2, h3⟩ := chL_tell hb ha hk
  obtain ⟨L, e, hL, f1, f2⟩ := apR_all _ bs (ris_of hb) (fun c hc => (h1 c hc).1) h2 (fun c hc => (h1 c hc).2.2.1.symm)
  have hE : L = az := ris_ext hL (ris_of ha) fun x y => by
    by_cases hx : ∃ c ∈ chL bs az ks, kT c = x ∧ kK c = y
    · obtain ⟨c, hc, rfl, rfl⟩ := hx
      rw [f1 c hc, (h1 c hc).2.2.2]
    · have hn : ∀ c ∈ chL bs az ks, ¬ (kT c = x ∧ kK c = y) := fun c hc k => hx ⟨c, hc, k⟩
      rw [f2 x y hn, h3 x y hn]
  subst hE
  have hq : acQ bs (chL bs L ks) = 0 := by rw [acQ_end hb e, if_neg (by have := (rowsQ_ris ha).2; omega)]
  exact ⟨hq, by unfold acL; rw [if_pos hq, e]⟩
theorem inv_key {c : Chg} (h : chQ c = 0) : kT (inv c) = kT c ∧ kK (inv c) = kK c := by
  obtain ⟨h1, h2, _, _⟩ := chQ_zero h
  unfold kT kK inv
  dsimp only
  cases hw : c.was <;> cases hi : c.is <;> simp [hw, hi] at h1 h2 ⊢
  exact h2
theorem inv_ok {c : Chg} (h : chQ c = 0) : chQ (inv c) = 0 := by
  obtain ⟨h1, h2, h3, h4⟩ := chQ_zero h
  exact chQ_of (h1.symm) (fun hw hi => ⟨(h2 hi hw).1.symm, (h2 hi hw).2.symm⟩) h4 h3
theorem chL_iv {bs az ks : List Rw} (hb : rowsQ bs = 0) (ha : rowsQ az = 0) (hk : KeyL bs az ks) (hl : (chL bs az ks).length ≤ 60) : ivQ (chL bs az ks) = 0 ∧ ivL (chL bs az ks) = ((chL bs az ks).map inv).reverse := by
  obtain ⟨h1, _, _⟩ := chL_tell hb ha hk
  have hq : ivQ (chL bs az ks) = 0 := by
    unfold ivQ
    rw [if_neg (by omega)]
    exact alF_all fun c hc => by unfold alQ; rw [if_pos (h1 c hc).1, (h1 c hc).2.1]; rfl
  exact ⟨hq, by unfold ivL; rw [if_pos hq]⟩
/-- Taken back: the rows ahead. -/
theorem ch_back {bs az ks : List Rw} (hb : rowsQ bs = 0) (ha : rowsQ az = 0) (hk : KeyL bs az ks) (hl : (chL bs az ks).length ≤ 60) : acQ az (ivL (chL bs az ks)) = 0 ∧ acL az (ivL (chL bs az ks)) = bs := by
  obtain ⟨h1, h2, h3⟩ := chL_tell hb ha hk
  rw [(chL_iv hb ha hk hl).2]
  have mem : ∀ c, c ∈ ((chL bs az ks).map inv).reverse → ∃ d ∈ chL bs az ks, c = inv d := fun c hc => by
    obtain ⟨d, hd, e⟩ := List.mem_map.1 (List.mem_reverse.1 hc)
    exact ⟨d, hd, e.symm⟩
  obtain ⟨L, e, hL, f1, f2⟩ := apR_all (((chL bs az ks).map inv).reverse) az (ris_of ha) (fun c hc => by obtain ⟨d, hd, rfl⟩ := mem c hc; exact inv_ok (h1 d hd).1) (by
      rw [List.pairwise_reverse, List.pairwise_map]
      refine List.Pairwise.imp_of_mem (fun {c d} hc hd hn e => hn ?_) h2
      obtain ⟨i1, i2⟩ := inv_key (h1 c hc).1
      obtain ⟨j1, j2⟩ := inv_key (h1 d hd).1
      rw [i1, i2, j1, j2] at e
      exact ⟨e.1.symm, e.2.symm⟩)
    (fun c hc => by
      obtain ⟨d, hd, rfl⟩ := mem c hc
      obtain ⟨i1, i2⟩ := inv_key (h1 d hd).1
      rw [i1, i2, ← (h1 d hd).2.2.2]; rfl)
  have hE : L = bs := ris_ext hL (ris_of hb) fun x y => by
    by_cases hx : ∃ c ∈ chL bs az ks, kT c = x ∧ kK c = y
    · obtain ⟨c, hc, rfl, rfl⟩ := hx
      obtain ⟨i1, i2⟩ := inv_key (h1 c hc).1
      have := f1 (inv c) (List.mem_reverse.2 (List.mem_map.2 ⟨c, hc, rfl⟩))
      rw [i1, i2] at this
      rw [this, ← (h1 c hc).2.2.1]; rfl
    · have hn : ∀ c ∈ chL bs az ks, ¬ (kT c = x ∧ kK c = y) := fun c hc k => hx ⟨c, hc, k⟩
      rw [f2 x y (fun c hc k => by
        obtain ⟨d, hd, rfl⟩ := mem c hc
        obtain ⟨i1, i2⟩ := inv_key (h1 d hd).1
        rw [i1, i2] at k
        exact hn d hd k), ← h3 x y hn]
  subst hE
  have hq : acQ az (((chL L az ks).map inv).reverse) = 0 := by rw [acQ_end ha e, if_neg (by have := (rowsQ_ris hb).2; omega)]
  exact ⟨hq, by unfold acL; rw [if_pos hq, e]⟩
/-- No change: the same rows. -/
theorem ch_none {bs az ks : List Rw} (hb : rowsQ bs = 0) (ha : rowsQ az = 0) (hk : KeyL bs az ks) : (chL bs az ks).length = 0 ↔ bs = az := by
  constructor
  · intro h
    have h := List.length_eq_zero_iff.1 h
    refine ris_ext (ris_of hb) (ris_of ha) fun x y => (chL_tell hb ha hk).2.2 x y fun c hc => ?_
    rw [h] at hc
    simp at hc
  · rintro rfl
    unfold chL
    have : (fun r : Rw => chK bs bs r.t r.k) = fun _ => none := by funext r; exact chK_self
    rw [this]; simp

end Go.Proofs.Ythhkgpflodeleaa
