/-
  Cells of pages, told as lists.
-/
import Derived.Test.YtcadkclppejdgaaRdw
import Derived.Test.YtcadkclppejdgaaClo
namespace Go.Proofs.Ytcadkclppejdgaa
open Go.RowKit
set_option linter.unusedVariables false

/-- A cell, and where it stands. -/
structure Spt where
  p : Int
  s : Int
  c : Cel

def spE (x : Spt) : List Value := [.int .i64 x.p, .int .i64 x.s, .int .i64 x.c.q, .int .i64 x.c.f, .int .i64 x.c.p, .int .i64 x.c.l, .int .i64 x.c.t, .int .i64 x.c.k, .int .i64 x.c.v, .string x.c.s]
theorem spE_len (x : Spt) : (spE x).length = 10 := rfl

theorem unp_q (zs : List Int) : (unp zs).q = 0 ∨ (unp zs).q = 5 := by
  unfold unp
  split
  · exact .inr rfl
  · split
    · unfold stubC; split
      · exact .inl rfl
      · exact .inr rfl
    · split
      · unfold rowC; split
        · exact .inl rfl
        · exact .inr rfl
      · exact .inr rfl

/-- The cell of slot s, where there is one. -/
def oneC (p : Int) (zs : List Int) (s : Nat) : List Spt := if empB zs s = true then [] else [⟨p, s, unp (cellOf zs s)⟩]
/-- Those of the first slots. -/
def cellsTo (p : Int) (zs : List Int) : Nat → List Spt
  | 0 => []
  | k + 1 => cellsTo p zs k ++ oneC p zs k
/-- Is there one among the first slots that is no cell? -/
def badAt (zs : List Int) (k : Nat) : Bool := !(empB zs k) && decide ((unp (cellOf zs k)).q ≠ 0)
def badTo (zs : List Int) : Nat → Bool
  | 0 => false
  | k + 1 => badTo zs k || badAt zs k
/-- The code of a page and its cells. -/
def pageC (zs : List Int) : Int := if fltOf zs = 0 then (if badTo zs (nb zs 0) = true then 5 else 0) else fltOf zs
def pageL (p : Int) (zs : List Int) : List Spt := if pageC zs = 0 then cellsTo p zs (nb zs 0) else []

theorem badTo_mono (zs : List Int) : ∀ k m, badTo zs k = true → badTo zs (k + m) = true
  | _, 0, h => h
  | k, m + 1, h => by
    have := badTo_mono zs k m h
    show badTo zs (k + m + 1) = true
    simp only [badTo, this, Bool.true_or]
theorem badTo_at {zs : List Int} {k n : Nat} (h : badAt zs k = true) (hk : k < n) : badTo zs n = true := by
  obtain ⟨m, rfl⟩ : ∃ m, n = k + 1 + m := ⟨n - (k + 1), by omega⟩
  exact badTo_mono zs (k + 1) m (by simp [badTo, h])

theorem cellsTo_len (p : Int) (zs : List Int) : ∀ k, (cellsTo p zs k).length ≤ k
  | 0 => Nat.le_refl _
  | k + 1 => by
    have := cellsTo_len p zs k
    simp only [cellsTo, List.length_append]
    have : (oneC p zs k).length ≤ 1 := by unfold oneC; split <;> simp
    omega

theorem ownsRow_nil (w : World) (base e size : Nat) : w.ownsRow base e size (.slice none 0 0) 0 [] := ⟨by simp, .inl ⟨rfl, rfl⟩⟩

theorem ownsRow_ne {w : World} {base e size n g : Nat} {v : Value} {xs : List Value} {cs : Array Value} {e' : Nat} (h : w.ownsRow base e size v n xs) (hg : w.heap[g]? = some (.cells cs e')) (hne : e ≠ e') : v.ownBlock ≠ some g := by
  obtain ⟨_, ⟨rfl, _⟩ | ⟨g', cap, cur, rfl, _, hc, _⟩⟩ := h
  · simp [Value.ownBlock]
  · intro e1
    simp [Value.ownBlock] at e1
    subst e1
    rw [hc] at hg
    simp at hg
    exact hne hg.2

theorem ownsRow_below {w w' : World} {base e size n : Nat} {v : Value} {xs : List Value} (h : w.ownsRow base e size v n xs) (hb : Below w.heap.size w w') : w'.ownsRow base e size v n xs := by
  obtain ⟨hl, h1 | ⟨g, cap, cur, rfl, hbb, hc, r⟩⟩ := h
  · exact ⟨hl, .inl h1⟩
  · exact ⟨hl, .inr ⟨g, cap, cur, rfl, hbb, (hb.block g (Array.getElem?_eq_some_iff.1 hc).1).trans hc, r⟩⟩

theorem ownsRow_base {w : World} {base base' e size n : Nat} {v : Value} {xs : List Value} (h : w.ownsRow base e size v n xs) (hb : base' ≤ base) : w.ownsRow base' e size v n xs := by
  obtain ⟨hl, h1 | ⟨g, cap, cur, rfl, hbb, r⟩⟩ := h
  · exact ⟨hl, .inl h1⟩
  · exact ⟨hl, .inr ⟨g, cap, cur, rfl, Nat.le_trans hb hbb, r⟩⟩

end Go.Proofs.Ytcadkclppejdgaa
