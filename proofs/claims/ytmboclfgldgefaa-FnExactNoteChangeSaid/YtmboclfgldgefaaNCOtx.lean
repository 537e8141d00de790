/-
  Copies of transactions, while they are made: heads, and lists each in a block of its own.
-/
import Derived.Test.YtmboclfgldgefaaNCTxk
import Derived.Test.YtmboclfgldgefaaNCMtt

namespace Go.Proofs.Ytmboclfgldgefaa
open Go.RowKit Go.Maps
set_option linter.unusedVariables false
set_option maxRecDepth 20000

section
variable {w w' : World} {B e n k : Nat} {v : Value} {xs : List Value}
theorem ownsRow_keep (h : w.ownsRow B e k v n xs) (hk : ∀ g, v.ownBlock = some g → w'.heap[g]? = w.heap[g]?) : w'.ownsRow B e k v n xs := by
  obtain ⟨hl, h1 | ⟨g, cap, cur, rfl, hb, hc, r⟩⟩ := h
  · exact ⟨hl, .inl h1⟩
  · exact ⟨hl, .inr ⟨g, cap, cur, rfl, hb, (hk g rfl).trans hc, r⟩⟩
theorem ownsRow_lo (h : w.ownsRow B e k v n xs) : ∀ g, v.ownBlock = some g → B ≤ g ∧ g < w.heap.size := by
  obtain ⟨hl, ⟨rfl, _⟩ | ⟨g, cap, cur, rfl, hb, hc, r⟩⟩ := h
  · intro g h; simp [Value.ownBlock] at h
  · intro g' h
    simp [Value.ownBlock] at h
    subst h
    exact ⟨hb, (Array.getElem?_eq_some_iff.1 hc).1⟩
theorem ownsRow_apart {B' e' k' n' : Nat} {v' : Value} {xs' : List Value} (h : w.ownsRow B e k v n xs) (h' : w.ownsRow B' e' k' v' n' xs') (hne : e ≠ e') : ∀ g, v.ownBlock = some g → v'.ownBlock ≠ some g := by
  obtain ⟨_, ⟨rfl, _⟩ | ⟨g, cap, cur, rfl, _, hc, _⟩⟩ := h
  · intro g h; simp [Value.ownBlock] at h
  · intro g' hg
    simp [Value.ownBlock] at hg
    subst hg
    exact ownsRow_ne h' hc (fun h => hne h.symm)
end
/-- No block twice. -/
def Apt (l : List (Option Nat)) : Prop := ∀ (p q g : Nat), p < q → l[p]? = some (some g) → l[q]? ≠ some (some g)
theorem Apt.nil : Apt [] := fun p q g _ h _ => by simp at h
theorem Apt.snoc {l : List (Option Nat)} {o : Option Nat} (h : Apt l) (hn : ∀ g, o = some g → some g ∉ l) : Apt (l ++ [o]) := by
  intro p q g hpq hp hq
  by_cases hql : q < l.length
  · rw [List.getElem?_append_left hql] at hq
    rw [List.getElem?_append_left (by omega)] at hp
    exact h p q g hpq hp hq
  · have hq2 : q = l.length := by
      have := (List.getElem?_eq_some_iff.1 hq).1
      simp at this
      omega
    subst hq2
    rw [List.getElem?_append_left (by omega)] at hp
    simp at hq
    exact hn g hq (List.mem_of_getElem? hp)
theorem Apt.set {l : List (Option Nat)} {i : Nat} {o : Option Nat} (h : Apt l) (hn : ∀ g j, o = some g → j ≠ i → l[j]? ≠ some (some g)) : Apt (l.set i o) := by
  intro p q g hpq hp hq
  by_cases e1 : p = i
  · subst e1
    have hpl : p < l.length := by have := (List.getElem?_eq_some_iff.1 hp).1; simpa using this
    rw [List.getElem?_set_self hpl] at hp
    rw [List.getElem?_set_ne (by omega)] at hq
    cases hp
    exact hn g q rfl (by omega) hq
  · rw [List.getElem?_set_ne (fun he => e1 he.symm)] at hp
    by_cases e2 : q = i
    · subst e2
      have hql : q < l.length := by have := (List.getElem?_eq_some_iff.1 hq).1; simpa using this
      rw [List.getElem?_set_self hql] at hq
      cases hq
      exact hn g p rfl e1 hp
    · rw [List.getElem?_set_ne (fun he => e2 he.symm)] at hq
      exact h p q g hpq hp hq
theorem Apt.ne {l : List (Option Nat)} (h : Apt l) {p q g : Nat} (hpq : p ≠ q) (hp : l[p]? = some (some g)) : l[q]? ≠ some (some g) := by
  intro hq
  by_cases hl : p < q
  · exact h p q g hl hp hq
  · exact h q p g (by omega) hq hp
/-- The head of a transaction: its number and three slices. -/
structure TxH where
  id : Int
  ua : Option Addr
  un : Nat
  uc : Nat
  ma : Option Addr
  mn : Nat
  mc : Nat
  la : Option Addr
  ln : Nat
  lc : Nat
def TxH.U (h : TxH) : Value := .slice h.ua h.un h.uc
def TxH.M (h : TxH) : Value := .slice h.ma h.mn h.mc
def TxH.L (h : TxH) : Value := .slice h.la h.ln h.lc
def hdE (h : TxH) : List Value := [.int .i64 h.id, .slice h.ua h.un h.uc, .slice h.ma h.mn h.mc, .slice h.la h.ln h.lc]
theorem hdE_len (h : TxH) : (hdE h).length = 4 := rfl
theorem elH : ElT 46 110 hdE 4 80 where
  und := Try.underlying46
  inf := by obtain ⟨i, h1, h2, h3, h4⟩ := infoT; exact ⟨i, _, h1, h2, h3, h4, rfl⟩
  len := hdE_len
  one := by intro x u hu; simp [hdE] at hu; rcases hu with rfl | rfl | rfl | rfl <;> rfl
  pos := by decide
  few := by decide
/-- A head tells a transaction. -/
structure OneT (B : Nat) (w : World) (h : TxH) (x : TxV) : Prop where
  id : h.id = x.id
  un : h.un = x.u.length
  mn : h.mn = x.m.length
  ln : h.ln = x.l.length
  u : w.ownsRow B 61 10 h.U x.u.length (flat chE x.u)
  m : w.ownsRow B 2 1 h.M x.m.length (flat inE x.m)
  l : w.ownsRow B 89 2 h.L x.l.length (flat kyE x.l)
theorem OneT.keep {B : Nat} {w w' : World} {h : TxH} {x : TxV} (t : OneT B w h x) (hk : ∀ g, h.U.ownBlock = some g ∨ h.M.ownBlock = some g ∨ h.L.ownBlock = some g → w'.heap[g]? = w.heap[g]?) : OneT B w' h x :=
  ⟨t.id, t.un, t.mn, t.ln, ownsRow_keep t.u (fun g hg => hk g (.inl hg)), ownsRow_keep t.m (fun g hg => hk g (.inr (.inl hg))), ownsRow_keep t.l (fun g hg => hk g (.inr (.inr hg)))⟩
theorem OneT.lo {B : Nat} {w : World} {h : TxH} {x : TxV} (t : OneT B w h x) : ∀ g, h.U.ownBlock = some g ∨ h.M.ownBlock = some g ∨ h.L.ownBlock = some g → B ≤ g ∧ g < w.heap.size := by
  rintro g (hg | hg | hg)
  · exact ownsRow_lo t.u g hg
  · exact ownsRow_lo t.m g hg
  · exact ownsRow_lo t.l g hg
theorem OneT.below {B : Nat} {w w' : World} {h : TxH} {x : TxV} (t : OneT B w h x) (hb : Below w.heap.size w w') : OneT B w' h x := t.keep (fun g hg => hb.block g (t.lo g hg).2)
structure LsC (B : Nat) (w : World) (hs : List TxH) (xs : List TxV) : Prop where
  len : hs.length = xs.length
  one : ∀ (i : Nat) (h : TxH) (x : TxV), hs[i]? = some h → xs[i]? = some x → OneT B w h x
  au : Apt (hs.map fun h => h.U.ownBlock)
  am : Apt (hs.map fun h => h.M.ownBlock)
  al : Apt (hs.map fun h => h.L.ownBlock)
theorem LsC.nil (B : Nat) (w : World) : LsC B w [] [] := ⟨rfl, fun i h x hi _ => by simp at hi, Apt.nil, Apt.nil, Apt.nil⟩
theorem LsC.of {B : Nat} {w : World} {hs : List TxH} {xs : List TxV} (h : LsC B w hs xs) {i : Nat} {hh : TxH} (hi : hs[i]? = some hh) : ∃ x, xs[i]? = some x ∧ OneT B w hh x := by
  have hl : i < xs.length := by rw [← h.len]; exact (List.getElem?_eq_some_iff.1 hi).1
  exact ⟨xs[i], List.getElem?_eq_getElem hl, h.one i hh _ hi (List.getElem?_eq_getElem hl)⟩
theorem LsC.at {B : Nat} {w : World} {hs : List TxH} {xs : List TxV} (h : LsC B w hs xs) {i : Nat} {x : TxV} (hi : xs[i]? = some x) : ∃ hh, hs[i]? = some hh ∧ OneT B w hh x := by
  have hl : i < hs.length := by rw [h.len]; exact (List.getElem?_eq_some_iff.1 hi).1
  exact ⟨hs[i], List.getElem?_eq_getElem hl, h.one i _ x (List.getElem?_eq_getElem hl) hi⟩
theorem LsC.keep {B : Nat} {w w' : World} {hs : List TxH} {xs : List TxV} (h : LsC B w hs xs) (hk : ∀ (i : Nat) (hh : TxH), hs[i]? = some hh → ∀ g, hh.U.ownBlock = some g ∨ hh.M.ownBlock = some g ∨ hh.L.ownBlock = some g → w'.heap[g]? = w.heap[g]?) : LsC B w' hs xs :=
  ⟨h.len, fun i hh x h1 h2 => (h.one i hh x h1 h2).keep (hk i hh h1), h.au, h.am, h.al⟩
theorem LsC.below {B : Nat} {w w' : World} {hs : List TxH} {xs : List TxV} (h : LsC B w hs xs) (hb : Below w.heap.size w w') : LsC B w' hs xs :=
  h.keep (fun i hh hi g hg => by obtain ⟨x, _, t⟩ := h.of hi; exact hb.block g (t.lo g hg).2)
/-- What a slice of heads owns is none of their lists. -/
theorem LsC.head {B B' : Nat} {w : World} {hs : List TxH} {xs : List TxV} (h : LsC B w hs xs) {v : Value} {n : Nat} {ys : List Value} (hv : w.ownsRow B' 110 4 v n ys) : ∀ (i : Nat) (hh : TxH), hs[i]? = some hh → ∀ g, hh.U.ownBlock = some g ∨ hh.M.ownBlock = some g ∨ hh.L.ownBlock = some g → v.ownBlock ≠ some g := by
  intro i hh hi g hg
  obtain ⟨x, _, t⟩ := h.of hi
  rcases hg with hg | hg | hg
  · exact ownsRow_apart t.u hv (by decide) g hg
  · exact ownsRow_apart t.m hv (by decide) g hg
  · exact ownsRow_apart t.l hv (by decide) g hg
theorem LsC.kp {B : Nat} {w w' : World} {hs : List TxH} {xs : List TxV} {o : Option Nat} (h : LsC B w hs xs) (hk : Kp w w' o) (hn : ∀ (i : Nat) (hh : TxH), hs[i]? = some hh → ∀ g, hh.U.ownBlock = some g ∨ hh.M.ownBlock = some g ∨ hh.L.ownBlock = some g → o ≠ some g) : LsC B w' hs xs :=
  h.keep (fun i hh hi g hg => by obtain ⟨x, _, t⟩ := h.of hi; exact hk.block g (t.lo g hg).2 (fun e => hn i hh hi g hg e.symm))
theorem mem_map_at {α β : Type} {f : α → β} {l : List α} {b : β} (h : b ∈ l.map f) : ∃ (i : Nat) (a : α), l[i]? = some a ∧ f a = b := by
  obtain ⟨a, ha, rfl⟩ := List.mem_map.1 h
  obtain ⟨i, hi, rfl⟩ := List.mem_iff_getElem.1 ha
  exact ⟨i, _, List.getElem?_eq_getElem hi, rfl⟩
/-- One more, made of new blocks. -/
theorem LsC.snoc {B : Nat} {w0 w : World} {hs : List TxH} {xs : List TxV} {hh : TxH} {x : TxV} (h : LsC B w0 hs xs) (hb : Below w0.heap.size w0 w) (t : OneT B w hh x) (hf : ∀ g, hh.U.ownBlock = some g ∨ hh.M.ownBlock = some g ∨ hh.L.ownBlock = some g → w0.heap.size ≤ g) : LsC B w (hs ++ [hh]) (xs ++ [x]) := by
  have h2 := h.below hb
  refine ⟨by simp [h.len], fun i ha y h3 h4 => ?_, ?_, ?_, ?_⟩
  · by_cases hl : i < hs.length
    · rw [List.getElem?_append_left hl] at h3
      rw [List.getElem?_append_left (by rw [← h.len]; exact hl)] at h4
      exact h2.one i ha y h3 h4
    · have hi : i = hs.length := by
        have := (List.getElem?_eq_some_iff.1 h3).1
        simp at this
        omega
      subst hi
      simp at h3
      rw [h.len] at h4
      simp at h4
      subst h3 h4
      exact t
  · rw [List.map_append]
    refine h.au.snoc (fun g hg hm => ?_)
    obtain ⟨i, a, hi, he⟩ := mem_map_at hm
    obtain ⟨y, _, ty⟩ := h.of hi
    have h1 := (ty.lo g (.inl he)).2
    have h2 := hf g (.inl hg)
    omega
  · rw [List.map_append]
    refine h.am.snoc (fun g hg hm => ?_)
    obtain ⟨i, a, hi, he⟩ := mem_map_at hm
    obtain ⟨y, _, ty⟩ := h.of hi
    have h1 := (ty.lo g (.inr (.inl he))).2
    have h2 := hf g (.inr (.inl hg))
    omega
  · rw [List.map_append]
    refine h.al.snoc (fun g hg hm => ?_)
    obtain ⟨i, a, hi, he⟩ := mem_map_at hm
    obtain ⟨y, _, ty⟩ := h.of hi
    have h1 := (ty.lo g (.inr (.inr he))).2
    have h2 := hf g (.inr (.inr hg))
    omega
theorem map_set' {α β : Type} (f : α → β) (l : List α) (i : Nat) (a : α) : (l.set i a).map f = (l.map f).set i (f a) := by simp [List.map_set]
theorem set_at {α : Type} {l : List α} {i j : Nat} {a b : α} (h : (l.set i a)[j]? = some b) (hi : i < l.length) : (j = i ∧ b = a) ∨ (j ≠ i ∧ l[j]? = some b) := by
  by_cases e : j = i
  · subst e
    rw [List.getElem?_set_self hi] at h
    cases h
    exact .inl ⟨rfl, rfl⟩
  · rw [List.getElem?_set_ne (fun he => e he.symm)] at h
    exact .inr ⟨e, h⟩
/-- What one turned becomes more. -/
theorem LsC.appU {B : Nat} {w w' : World} {hs : List TxH} {xs : List TxV} {i : Nat} {hh : TxH} {x : TxV} (h : LsC B w hs xs) (hi : hs[i]? = some hh) (hx : xs[i]? = some x) {a : Option Addr} {n c : Nat} {us : List Chg} (hk : Kp w w' hh.U.ownBlock) (hnx : Nx w hh.U.ownBlock (Value.slice a n c).ownBlock) (hn : n = us.length) (ho : w'.ownsRow B 61 10 (.slice a n c) us.length (flat chE us)) :
    LsC B w' (hs.set i ⟨hh.id, a, n, c, hh.ma, hh.mn, hh.mc, hh.la, hh.ln, hh.lc⟩) (xs.set i ⟨x.id, us, x.m, x.l⟩) := by
  have hil : i < hs.length := (List.getElem?_eq_some_iff.1 hi).1
  have hxl : i < xs.length := (List.getElem?_eq_some_iff.1 hx).1
  have t := h.one i hh x hi hx
  have hne : ∀ (j : Nat) (ha : TxH), hs[j]? = some ha → j ≠ i → ∀ g, ha.U.ownBlock = some g → hh.U.ownBlock ≠ some g := fun j ha hj hji g hg he => by
    refine h.au.ne (p := j) (q := i) (g := g) hji ?_ ?_
    · rw [List.getElem?_map, hj]; simp [hg]
    · rw [List.getElem?_map, hi]; simp [he]
  have hother : ∀ (j : Nat) (ha : TxH), hs[j]? = some ha → ∀ g, (j ≠ i ∧ ha.U.ownBlock = some g) ∨ ha.M.ownBlock = some g ∨ ha.L.ownBlock = some g → w'.heap[g]? = w.heap[g]? := fun j ha hj g hg => by
    obtain ⟨y, _, ty⟩ := h.of hj
    have hlt := (ty.lo g (by rcases hg with ⟨_, hg⟩ | hg | hg; exact .inl hg; exact .inr (.inl hg); exact .inr (.inr hg))).2
    refine hk.block g hlt (fun he => ?_)
    rcases hg with ⟨hji, hg⟩ | hg | hg
    · exact hne j ha hj hji g hg he.symm
    · exact ownsRow_apart ty.m t.u (by decide) g hg he.symm
    · exact ownsRow_apart ty.l t.u (by decide) g hg he.symm
  refine ⟨by simp [h.len], fun j ha y h3 h4 => ?_, ?_, ?_, ?_⟩
  · rcases set_at h3 hil with ⟨rfl, rfl⟩ | ⟨hji, h3⟩
    · rcases set_at h4 hxl with ⟨_, rfl⟩ | ⟨hne2, _⟩
      · exact ⟨t.id, hn, t.mn, t.ln, ho, ownsRow_keep t.m (fun g hg => hother j hh hi g (.inr (.inl hg))), ownsRow_keep t.l (fun g hg => hother j hh hi g (.inr (.inr hg)))⟩
      · exact absurd rfl hne2
    · rcases set_at h4 hxl with ⟨he, _⟩ | ⟨_, h4⟩
      · exact absurd he hji
      · exact (h.one j ha y h3 h4).keep (fun g hg => hother j ha h3 g (by rcases hg with hg | hg | hg; exact .inl ⟨hji, hg⟩; exact .inr (.inl hg); exact .inr (.inr hg)))
  · rw [map_set']
    refine h.au.set (fun g j hg hji hj => ?_)
    rw [List.getElem?_map] at hj
    cases e : hs[j]? with
    | none => rw [e] at hj; simp at hj
    | some ha =>
      rw [e] at hj
      simp at hj
      obtain ⟨y, _, ty⟩ := h.of e
      rcases hnx with hnx | ⟨g', hnx, hge⟩
      · exact hne j ha e hji g hj (hnx ▸ hg)
      · have : g' = g := by
          have h1 : (Value.slice a n c).ownBlock = some g := hg
          rw [hnx] at h1
          exact Option.some.inj h1
        have h2 := (ty.lo g (.inl hj)).2
        omega
  · rw [map_set']
    have e : (hs.map fun h => h.M.ownBlock).set i (TxH.M ⟨hh.id, a, n, c, hh.ma, hh.mn, hh.mc, hh.la, hh.ln, hh.lc⟩).ownBlock = hs.map fun h => h.M.ownBlock := by
      refine List.ext_getElem? (fun j => ?_)
      by_cases ej : i = j
      · subst ej
        rw [List.getElem?_set_self (by simpa using hil), List.getElem?_map, hi]
        rfl
      · rw [List.getElem?_set_ne ej]
    rw [e]
    exact h.am
  · rw [map_set']
    have e : (hs.map fun h => h.L.ownBlock).set i (TxH.L ⟨hh.id, a, n, c, hh.ma, hh.mn, hh.mc, hh.la, hh.ln, hh.lc⟩).ownBlock = hs.map fun h => h.L.ownBlock := by
      refine List.ext_getElem? (fun j => ?_)
      by_cases ej : i = j
      · subst ej
        rw [List.getElem?_set_self (by simpa using hil), List.getElem?_map, hi]
        rfl
      · rw [List.getElem?_set_ne ej]
    rw [e]
    exact h.al
/-- Its locks become more. -/
theorem LsC.appL {B : Nat} {w w' : World} {hs : List TxH} {xs : List TxV} {i : Nat} {hh : TxH} {x : TxV} (h : LsC B w hs xs) (hi : hs[i]? = some hh) (hx : xs[i]? = some x) {a : Option Addr} {n c : Nat} {ls : List K2} (hk : Kp w w' hh.L.ownBlock) (hnx : Nx w hh.L.ownBlock (Value.slice a n c).ownBlock) (hn : n = ls.length) (ho : w'.ownsRow B 89 2 (.slice a n c) ls.length (flat kyE ls)) :
    LsC B w' (hs.set i ⟨hh.id, hh.ua, hh.un, hh.uc, hh.ma, hh.mn, hh.mc, a, n, c⟩) (xs.set i ⟨x.id, x.u, x.m, ls⟩) := by
  have hil : i < hs.length := (List.getElem?_eq_some_iff.1 hi).1
  have hxl : i < xs.length := (List.getElem?_eq_some_iff.1 hx).1
  have t := h.one i hh x hi hx
  have hne : ∀ (j : Nat) (ha : TxH), hs[j]? = some ha → j ≠ i → ∀ g, ha.L.ownBlock = some g → hh.L.ownBlock ≠ some g := fun j ha hj hji g hg he => by
    refine h.al.ne (p := j) (q := i) (g := g) hji ?_ ?_
    · rw [List.getElem?_map, hj]; simp [hg]
    · rw [List.getElem?_map, hi]; simp [he]
  have hother : ∀ (j : Nat) (ha : TxH), hs[j]? = some ha → ∀ g, ha.U.ownBlock = some g ∨ ha.M.ownBlock = some g ∨ (j ≠ i ∧ ha.L.ownBlock = some g) → w'.heap[g]? = w.heap[g]? := fun j ha hj g hg => by
    obtain ⟨y, _, ty⟩ := h.of hj
    have hlt := (ty.lo g (by rcases hg with hg | hg | ⟨_, hg⟩; exact .inl hg; exact .inr (.inl hg); exact .inr (.inr hg))).2
    refine hk.block g hlt (fun he => ?_)
    rcases hg with hg | hg | ⟨hji, hg⟩
    · exact ownsRow_apart ty.u t.l (by decide) g hg he.symm
    · exact ownsRow_apart ty.m t.l (by decide) g hg he.symm
    · exact hne j ha hj hji g hg he.symm
  refine ⟨by simp [h.len], fun j ha y h3 h4 => ?_, ?_, ?_, ?_⟩
  · rcases set_at h3 hil with ⟨rfl, rfl⟩ | ⟨hji, h3⟩
    · rcases set_at h4 hxl with ⟨_, rfl⟩ | ⟨hne2, _⟩
      · exact ⟨t.id, t.un, t.mn, hn, ownsRow_keep t.u (fun g hg => hother j hh hi g (.inl hg)), ownsRow_keep t.m (fun g hg => hother j hh hi g (.inr (.inl hg))), ho⟩
      · exact absurd rfl hne2
    · rcases set_at h4 hxl with ⟨he, _⟩ | ⟨_, h4⟩
      · exact absurd he hji
      · exact (h.one j ha y h3 h4).keep (fun g hg => hother j ha h3 g (by rcases hg with hg | hg | hg; exact .inl hg; exact .inr (.inl hg); exact .inr (.inr ⟨hji, hg⟩)))
  · rw [map_set']
    have e : (hs.map fun h => h.U.ownBlock).set i (TxH.U ⟨hh.id, hh.ua, hh.un, hh.uc, hh.ma, hh.mn, hh.mc, a, n, c⟩).ownBlock = hs.map fun h => h.U.ownBlock := by
      refine List.ext_getElem? (fun j => ?_)
      by_cases ej : i = j
      · subst ej
        rw [List.getElem?_set_self (by simpa using hil), List.getElem?_map, hi]
        rfl
      · rw [List.getElem?_set_ne ej]
    rw [e]
    exact h.au
  · rw [map_set']
    have e : (hs.map fun h => h.M.ownBlock).set i (TxH.M ⟨hh.id, hh.ua, hh.un, hh.uc, hh.ma, hh.mn, hh.mc, a, n, c⟩).ownBlock = hs.map fun h => h.M.ownBlock := by
      refine List.ext_getElem? (fun j => ?_)
      by_cases ej : i = j
      · subst ej
        rw [List.getElem?_set_self (by simpa using hil), List.getElem?_map, hi]
        rfl
      · rw [List.getElem?_set_ne ej]
    rw [e]
    exact h.am
  · rw [map_set']
    refine h.al.set (fun g j hg hji hj => ?_)
    rw [List.getElem?_map] at hj
    cases e : hs[j]? with
    | none => rw [e] at hj; simp at hj
    | some ha =>
      rw [e] at hj
      simp at hj
      obtain ⟨y, _, ty⟩ := h.of e
      rcases hnx with hnx | ⟨g', hnx, hge⟩
      · exact hne j ha e hji g hj (hnx ▸ hg)
      · have : g' = g := by
          have h1 : (Value.slice a n c).ownBlock = some g := hg
          rw [hnx] at h1
          exact Option.some.inj h1
        have h2 := (ty.lo g (.inr (.inr hj))).2
        omega
/-- The heads as they stand in a block. -/
def HdC (w : World) (g : Nat) (hs : List TxH) : Prop := ∀ (i : Nat) (h : TxH), hs[i]? = some h → C4 w g (i * 4) h.id h.ua h.un h.uc h.ma h.mn h.mc h.la h.ln h.lc ∧ ∀ c, c < 4 → w.frozen? ⟨g, i * 4 + c, none⟩ = false
theorem HdC.block {w w' : World} {g : Nat} {hs : List TxH} (h : HdC w g hs) (hb : w'.heap[g]? = w.heap[g]?) : HdC w' g hs := fun i hh hi => by
  obtain ⟨⟨c0, c1, c2, c3⟩, hf⟩ := h i hh hi
  exact ⟨⟨(World.cell?_of_block hb).trans c0, (World.cell?_of_block hb).trans c1, (World.cell?_of_block hb).trans c2, (World.cell?_of_block hb).trans c3⟩, fun c hc => (World.frozen?_of_block hb).trans (hf c hc)⟩
theorem HdC.of {w : World} {B g n c : Nat} {hs : List TxH} (h : w.ownsRow B 110 4 (.slice (some ⟨g, 0, none⟩) n c) hs.length (flat hdE hs)) : HdC w g hs := fun i hh hi => by
  obtain ⟨a', c', e, _, hin, _⟩ := SlIn.ofRow hdE_len h
  cases e
  rcases hin with rfl | ⟨b, off, e, h1, h2, hc⟩
  · simp at hi
  · cases e
    have q := fun j u hu => hc i hh hi j u hu
    have q0 := q 0 _ rfl
    have q1 := q 1 _ rfl
    have q2 := q 2 _ rfl
    have q3 := q 3 _ rfl
    simp only [Nat.zero_add, Nat.add_zero] at q0 q1 q2 q3
    refine ⟨⟨q0.1, q1.1, q2.1, q3.1⟩, fun c hc' => ?_⟩
    have : c = 0 ∨ c = 1 ∨ c = 2 ∨ c = 3 := by omega
    rcases this with rfl | rfl | rfl | rfl
    · exact q0.2
    · exact q1.2
    · exact q2.2
    · exact q3.2
theorem HdC.set {w w' : World} {g i : Nat} {hs : List TxH} {hh h' : TxH} (h : HdC w g hs) (hi : hs[i]? = some hh) (hC : C4 w' g (i * 4) h'.id h'.ua h'.un h'.uc h'.ma h'.mn h'.mc h'.la h'.ln h'.lc) (hO : ∀ p, (p < i * 4 ∨ i * 4 + 4 ≤ p) → w'.cell? ⟨g, p, none⟩ = w.cell? ⟨g, p, none⟩) (hf : ∀ p, w'.frozen? ⟨g, p, none⟩ = w.frozen? ⟨g, p, none⟩) : HdC w' g (hs.set i h') := fun j ha hj => by
  rcases set_at hj (List.getElem?_eq_some_iff.1 hi).1 with ⟨rfl, rfl⟩ | ⟨hne, hj⟩
  · exact ⟨hC, fun c hc => (hf _).trans ((h j hh hi).2 c hc)⟩
  · obtain ⟨⟨c0, c1, c2, c3⟩, q⟩ := h j ha hj
    exact ⟨⟨(hO _ (by omega)).trans c0, (hO _ (by omega)).trans c1, (hO _ (by omega)).trans c2, (hO _ (by omega)).trans c3⟩, fun c hc => (hf _).trans (q c hc)⟩
/-- A list that is owned lies in one block. -/
theorem SlIn.oneBlock {α : Type} {enc : α → List Value} {k B e n c : Nat} {w : World} {a : Option Addr} {xs : List α} (hk : ∀ x, (enc x).length = k) (h : w.ownsRow B e k (.slice a n c) xs.length (flat enc xs)) : SlIn enc k ((Value.slice a n c).ownBlock.getD B) (match (Value.slice a n c).ownBlock with | some g => g + 1 | none => B) w a xs := by
  obtain ⟨a', c', e', _, hin, _⟩ := SlIn.ofRow hk h
  cases e'
  rcases hin with rfl | ⟨b, off, rfl, h1, h2, hc⟩
  · exact .inl rfl
  · refine .inr ⟨b, off, rfl, ?_, ?_, hc⟩
    · simp [Value.ownBlock]
    · simp [Value.ownBlock]
/-- Where the p-th list of heads lies. -/
def bkO (hs : List TxH) (p : Nat) : Option Nat := match hs[p / 3]? with
  | none => none
  | some h => if p % 3 = 0 then h.U.ownBlock else if p % 3 = 1 then h.M.ownBlock else h.L.ownBlock
def loO (B : Nat) (hs : List TxH) (p : Nat) : Nat := (bkO hs p).getD B
def hiO (B : Nat) (hs : List TxH) (p : Nat) : Nat := match bkO hs p with
  | some g => g + 1
  | none => B
theorem bkO0 {hs : List TxH} {i : Nat} {h : TxH} (hi : hs[i]? = some h) : bkO hs (3 * i) = h.U.ownBlock := by
  unfold bkO
  rw [show 3 * i / 3 = i by omega, hi]
  simp [show 3 * i % 3 = 0 by omega]
theorem bkO1 {hs : List TxH} {i : Nat} {h : TxH} (hi : hs[i]? = some h) : bkO hs (3 * i + 1) = h.M.ownBlock := by
  unfold bkO
  rw [show (3 * i + 1) / 3 = i by omega, hi]
  simp [show (3 * i + 1) % 3 = 1 by omega]
theorem bkO2 {hs : List TxH} {i : Nat} {h : TxH} (hi : hs[i]? = some h) : bkO hs (3 * i + 2) = h.L.ownBlock := by
  unfold bkO
  rw [show (3 * i + 2) / 3 = i by omega, hi]
  simp [show (3 * i + 2) % 3 = 2 by omega]
theorem three (p : Nat) : p = 3 * (p / 3) ∨ p = 3 * (p / 3) + 1 ∨ p = 3 * (p / 3) + 2 := by omega
theorem bkO_at {hs : List TxH} {p g : Nat} (h : bkO hs p = some g) : ∃ hh, hs[p / 3]? = some hh ∧ ((p % 3 = 0 ∧ hh.U.ownBlock = some g) ∨ (p % 3 = 1 ∧ hh.M.ownBlock = some g) ∨ (p % 3 = 2 ∧ hh.L.ownBlock = some g)) := by
  unfold bkO at h
  split at h
  · cases h
  · rename_i hh he
    refine ⟨hh, he, ?_⟩
    split at h
    · exact .inl ⟨by assumption, h⟩
    · split at h
      · exact .inr (.inl ⟨by assumption, h⟩)
      · exact .inr (.inr ⟨by omega, h⟩)
/-- Heads in a block and their lists: transactions of one's own. -/
theorem LsC.own {B : Nat} {w : World} {g : Nat} {hs : List TxH} {xs : List TxV} (h : LsC B w hs xs) (hd : HdC w g hs) (hg : B ≤ g) (hn : ∀ (i : Nat) (hh : TxH), hs[i]? = some hh → ∀ q, hh.U.ownBlock = some q ∨ hh.M.ownBlock = some q ∨ hh.L.ownBlock = some q → q ≠ g) : OwA B w (some ⟨g, 0, none⟩) xs := by
  by_cases hnil : xs = []
  · exact .inl hnil
  have hgw : g < w.heap.size := by
    have hl : 0 < hs.length := by rw [h.len]; exact List.length_pos_iff.2 hnil
    exact (hd 0 _ (List.getElem?_eq_getElem hl)).1.lt
  refine .inr ⟨g, loO B hs, hiO B hs, rfl, ⟨fun i x hx => ?_, fun i hi => ?_, fun p hp => ?_, fun p q hpq hq => ?_⟩, ⟨hg, hgw⟩, fun p hp => ?_⟩
  · obtain ⟨hh, hi, t⟩ := h.at hx
    obtain ⟨c4, _⟩ := hd i hh hi
    have hcap : hh.ln ≤ hh.lc := by
      obtain ⟨a', c', e, hc, _⟩ := SlIn.ofRow kyE_len t.l
      have e1 : hh.lc = c' := (Value.slice.inj e).2.2
      rw [t.ln, e1]; exact hc
    refine ⟨hh.ua, hh.ma, hh.la, hh.uc, hh.mc, hh.lc, by rw [← t.id, ← t.un, ← t.mn, ← t.ln]; exact c4, by rw [← t.ln]; exact hcap, ⟨?_, ?_, ?_⟩⟩
    · have := SlIn.oneBlock chE_len t.u
      unfold loO hiO
      rw [bkO0 hi]
      exact this
    · have := SlIn.oneBlock inE_len t.m
      unfold loO hiO
      rw [bkO1 hi]
      exact this
    · have := SlIn.oneBlock kyE_len t.l
      unfold loO hiO
      rw [bkO2 hi]
      exact this
  · have hl : i < hs.length := by rw [h.len]; exact hi
    have := (hd i _ (List.getElem?_eq_getElem hl)).2 0 (by omega)
    simpa using this
  · unfold loO hiO
    cases e : bkO hs p with
    | none => exact .inr hg
    | some q =>
      obtain ⟨hh, h1, h2⟩ := bkO_at e
      have := hn _ hh h1 q (by rcases h2 with ⟨_, h2⟩ | ⟨_, h2⟩ | ⟨_, h2⟩; exact .inl h2; exact .inr (.inl h2); exact .inr (.inr h2))
      simp only [Option.getD_some]
      omega
  · unfold loO hiO
    cases e : bkO hs p with
    | none =>
      cases e2 : bkO hs q with
      | none => exact .inl (Nat.le_refl _)
      | some g2 =>
        obtain ⟨hh, h1, h2⟩ := bkO_at e2
        obtain ⟨x, _, t⟩ := h.of h1
        have := t.lo g2 (by rcases h2 with ⟨_, h2⟩ | ⟨_, h2⟩ | ⟨_, h2⟩; exact .inl h2; exact .inr (.inl h2); exact .inr (.inr h2))
        exact .inl this.1
    | some g1 =>
      obtain ⟨h1, i1, o1⟩ := bkO_at e
      obtain ⟨x1, _, t1⟩ := h.of i1
      cases e2 : bkO hs q with
      | none =>
        have := t1.lo g1 (by rcases o1 with ⟨_, h2⟩ | ⟨_, h2⟩ | ⟨_, h2⟩; exact .inl h2; exact .inr (.inl h2); exact .inr (.inr h2))
        exact .inr this.1
      | some g2 =>
        obtain ⟨h2, i2, o2⟩ := bkO_at e2
        obtain ⟨x2, _, t2⟩ := h.of i2
        have hne : g1 ≠ g2 := by
          rintro rfl
          rcases o1 with ⟨m1, o1⟩ | ⟨m1, o1⟩ | ⟨m1, o1⟩ <;> rcases o2 with ⟨m2, o2⟩ | ⟨m2, o2⟩ | ⟨m2, o2⟩
          · exact h.au.ne (p := p / 3) (q := q / 3) (g := g1) (by omega) (by rw [List.getElem?_map, i1]; simp [o1]) (by rw [List.getElem?_map, i2]; simp [o2])
          · exact ownsRow_apart t1.u t2.m (by decide) g1 o1 o2
          · exact ownsRow_apart t1.u t2.l (by decide) g1 o1 o2
          · exact ownsRow_apart t1.m t2.u (by decide) g1 o1 o2
          · exact h.am.ne (p := p / 3) (q := q / 3) (g := g1) (by omega) (by rw [List.getElem?_map, i1]; simp [o1]) (by rw [List.getElem?_map, i2]; simp [o2])
          · exact ownsRow_apart t1.m t2.l (by decide) g1 o1 o2
          · exact ownsRow_apart t1.l t2.u (by decide) g1 o1 o2
          · exact ownsRow_apart t1.l t2.m (by decide) g1 o1 o2
          · exact h.al.ne (p := p / 3) (q := q / 3) (g := g1) (by omega) (by rw [List.getElem?_map, i1]; simp [o1]) (by rw [List.getElem?_map, i2]; simp [o2])
        simp only [Option.getD_some]
        omega
  · unfold loO hiO
    cases e : bkO hs p with
    | none => exact ⟨Nat.le_refl _, Nat.le_of_lt (Nat.lt_of_le_of_lt hg hgw)⟩
    | some q =>
      obtain ⟨hh, h1, h2⟩ := bkO_at e
      obtain ⟨x, _, t⟩ := h.of h1
      exact t.lo q (by rcases h2 with ⟨_, h2⟩ | ⟨_, h2⟩ | ⟨_, h2⟩; exact .inl h2; exact .inr (.inl h2); exact .inr (.inr h2))

end Go.Proofs.Ytmboclfgldgefaa
