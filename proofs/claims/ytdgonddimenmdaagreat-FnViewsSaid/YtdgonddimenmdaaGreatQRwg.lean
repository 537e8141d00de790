/-
  Whether rows rise: the model's RowsFault.
-/
import Derived.Test.YtdgonddimenmdaaGreatQRwf
import Derived.Deep.SlicePairs
import Derived.OpenShut
import Derived.ProofKit
import Derived.Test.YtdgonddimenmdaaGreatQLawA

namespace Go.Proofs.YtdgonddimenmdaaGreat
open Go.RowKit
set_option linter.unusedVariables false

theorem RowC.drews {w : World} {b o : Nat} {r : Rw} (h : RowC w b o r) (n : Nat) : RowC (w.drewN n) b o r := ⟨h.c0, h.c1, h.c2, h.c3⟩

set_option maxHeartbeats 400000 in
theorem l1BeforeO_any (a oa b ob : Nat) (t k u l : Int) (w : World) (ha0 : w.cell? ⟨a, oa, none⟩ = some (.int .i64 t)) (ha1 : w.cell? ⟨a, oa + 1, none⟩ = some (.int .i64 k)) (hb0 : w.cell? ⟨b, ob, none⟩ = some (.int .i64 u)) (hb1 : w.cell? ⟨b, ob + 1, none⟩ = some (.int .i64 l)) :
    Calls Tryz.prog 79 #[.pointer (some ⟨a, oa, none⟩), .pointer (some ⟨b, ob, none⟩)] w fun e w' => e = .returned (.bool (befB t k u l)) ∧ ∃ n, w' = w.drewN n := by
  by_cases h1 : t < u
  · have e1 : befB t k u l = true := by simp [befB, h1]
    have d1 : decide (t < u) = true := by simpa using h1
    rw [e1]
    go_enter Tryz.func79, Tryz.ntmps79
    go_wp2
    go_quiet (fail)
    go_wp2
    go_ret
    exact ⟨rfl, _, rfl⟩
  · have d1 : decide (t < u) = false := by simpa using h1
    by_cases h2 : t = u
    · subst h2
      by_cases h3 : k < l
      · have e1 : befB t k t l = true := by simp [befB, h3]
        rw [e1]
        go_enter Tryz.func79, Tryz.ntmps79
        go_wp2
        go_quiet (fail)
        go_wp2
        go_ret
        exact ⟨rfl, _, rfl⟩
      · have e1 : befB t k t l = false := by simp [befB]; omega
        have d3 : decide (k < l) = false := by simpa using h3
        rw [e1]
        go_enter Tryz.func79, Tryz.ntmps79
        go_wp2
        go_quiet (fail)
        go_wp2
        go_ret
        exact ⟨rfl, _, rfl⟩
    · have e1 : befB t k u l = false := by simp [befB]; omega
      have d2 : (t == u) = false := by simpa using h2
      rw [e1]
      go_enter Tryz.func79, Tryz.ntmps79
      go_wp2
      go_quiet (fail)
      go_wp2
      go_ret
      exact ⟨rfl, _, rfl⟩

set_option maxHeartbeats 400000 in
theorem l1FaultO_any (b o : Nat) (t k v : Int) (s : ByteArray) (w : World) (h : RowC w b o ⟨t, k, v, s⟩) (hs : s.size ≤ maxLen) :
    Calls Tryz.prog 100 #[.pointer (some ⟨b, o, none⟩)] w fun e w' => e = .returned (.int .i64 (faultI t k v s)) ∧ w' = w := by
  obtain ⟨c0, c1, c2, c3⟩ := h
  dsimp only at c0 c1 c2 c3
  cases h1 : inW t 0 3
  · rw [fault_t t k v s h1]
    go_enter Tryz.func100, Tryz.ntmps100
    go_wp2_with (go_at_call 28; refine (l1InW_any _ _ _ _).mono ?_; rintro e w' ⟨rfl, rfl⟩)
    go_ret
    exact ⟨rfl, rfl⟩
  cases h2 : inW k 1 99
  · rw [fault_k t k v s h2]
    go_enter Tryz.func100, Tryz.ntmps100
    go_wp2_with (go_at_call 28; refine (l1InW_any _ _ _ _).mono ?_; rintro e w' ⟨rfl, rfl⟩)
    go_ret
    exact ⟨rfl, rfl⟩
  cases h3 : inW v 0 999
  · rw [fault_v t k v s h3]
    go_enter Tryz.func100, Tryz.ntmps100
    go_wp2_with (go_at_call 28; refine (l1InW_any _ _ _ _).mono ?_; rintro e w' ⟨rfl, rfl⟩)
    go_ret
    exact ⟨rfl, rfl⟩
  cases h4 : txtB s
  · rw [fault_s t k v s h1 h2 h3 h4]
    go_enter Tryz.func100, Tryz.ntmps100
    go_wp2_with (first | (go_at_call 28; refine (l1InW_any _ _ _ _).mono ?_; rintro e w' ⟨rfl, rfl⟩) | (go_at_call 114; refine (l1Text_any _ _ hs).mono ?_; rintro e w' ⟨rfl, rfl⟩))
    go_ret
    exact ⟨rfl, rfl⟩
  · rw [fault_0 t k v s h1 h2 h3 h4]
    go_enter Tryz.func100, Tryz.ntmps100
    go_wp2_with (first | (go_at_call 28; refine (l1InW_any _ _ _ _).mono ?_; rintro e w' ⟨rfl, rfl⟩) | (go_at_call 114; refine (l1Text_any _ _ hs).mono ?_; rintro e w' ⟨rfl, rfl⟩))
    go_ret
    exact ⟨rfl, rfl⟩


end Go.Proofs.YtdgonddimenmdaaGreat

/-
  What came in, opened: a slice of rows.
-/
namespace Go.Proofs.YtdgonddimenmdaaGreat
open Go.ChangeShapes Go.WideShapes Go.RowKit
set_option linter.unusedVariables false

structure IsRows (w : World) (a : Option Addr) (len : Nat) (rs : List Rw) : Prop where
  rd : Rs rwE 4 w a rs
  eq : rs.length = len
  ln : len ≤ 9223372036854775807
  sz : ∀ r ∈ rs, r.s.size ≤ maxLen
  wf : ∀ r ∈ rs, (Lit.int .i64 r.t).wf = true ∧ (Lit.int .i64 r.k).wf = true ∧ (Lit.int .i64 r.v).wf = true

instance : Inhabited Rw := ⟨⟨0, 0, 0, ⟨#[]⟩⟩⟩
theorem four {α : Type} (xs : List α) (h : xs.length = 4) : ∃ a b c d, xs = [a, b, c, d] := by
  match xs, h with
  | [a, b, c, d], _ => exact ⟨a, b, c, d, rfl⟩

theorem list_of_fun {α : Type} (q : Nat → α) (n : Nat) {i : Nat} {r : α} (h : ((List.range n).map q)[i]? = some r) : i < n ∧ r = q i := by
  rw [List.getElem?_map] at h
  cases e : (List.range n)[i]? with
  | none => rw [e] at h; simp at h
  | some m =>
    rw [e] at h
    simp at h
    obtain ⟨hl, hm⟩ := List.getElem?_eq_some_iff.1 e
    simp at hl hm
    exact ⟨hl, by rw [← h, ← hm]⟩

end Go.Proofs.YtdgonddimenmdaaGreat

/-
  Cells of pages, told as lists.
-/
namespace Go.Proofs.YtdgonddimenmdaaGreat
open Go.RowKit
set_option linter.unusedVariables false

/-- A cell, and where it stands. -/
structure Spt where
  p : Int
  s : Int
  c : Cel

def spE (x : Spt) : List Value := [.int .i64 x.p, .int .i64 x.s, .int .i64 x.c.q, .int .i64 x.c.f, .int .i64 x.c.p, .int .i64 x.c.l, .int .i64 x.c.t, .int .i64 x.c.k, .int .i64 x.c.v, .string x.c.s]
theorem spE_len (x : Spt) : (spE x).length = 10 := rfl

theorem unp_q (zs : List Int) : (unp zs).q = 0 ∨ (unp zs).q = 5 := by
  unfold unp
  split
  · exact .inr rfl
  · split
    · unfold stubC; split
      · exact .inl rfl
      · exact .inr rfl
    · split
      · unfold rowC; split
        · exact .inl rfl
        · exact .inr rfl
      · exact .inr rfl

/-- The cell of slot s, where there is one. -/
def oneC (p : Int) (zs : List Int) (s : Nat) : List Spt := if empB zs s = true then [] else [⟨p, s, unp (cellOf zs s)⟩]
/-- Those of the first slots. -/
def cellsTo (p : Int) (zs : List Int) : Nat → List Spt
  | 0 => []
  | k + 1 => cellsTo p zs k ++ oneC p zs k
/-- Is there one among the first slots that is no cell? -/
def badAt (zs : List Int) (k : Nat) : Bool := !(empB zs k) && decide ((unp (cellOf zs k)).q ≠ 0)
def badTo (zs : List Int) : Nat → Bool
  | 0 => false
  | k + 1 => badTo zs k || badAt zs k
/-- The code of a page and its cells. -/
def pageC (zs : List Int) : Int := if fltOf zs = 0 then (if badTo zs (nb zs 0) = true then 5 else 0) else fltOf zs
def pageL (p : Int) (zs : List Int) : List Spt := if pageC zs = 0 then cellsTo p zs (nb zs 0) else []

theorem badTo_mono (zs : List Int) : ∀ k m, badTo zs k = true → badTo zs (k + m) = true
  | _, 0, h => h
  | k, m + 1, h => by
    have := badTo_mono zs k m h
    show badTo zs (k + m + 1) = true
    simp only [badTo, this, Bool.true_or]
theorem badTo_at {zs : List Int} {k n : Nat} (h : badAt zs k = true) (hk : k < n) : badTo zs n = true := by
  obtain ⟨m, rfl⟩ : ∃ m, n = k + 1 + m := ⟨n - (k + 1), by omega⟩
  exact badTo_mono zs (k + 1) m (by simp [badTo, h])

theorem cellsTo_len (p : Int) (zs : List Int) : ∀ k, (cellsTo p zs k).length ≤ k
  | 0 => Nat.le_refl _
  | k + 1 => by
    have := cellsTo_len p zs k
    simp only [cellsTo, List.length_append]
    have : (oneC p zs k).length ≤ 1 := by unfold oneC; split <;> simp
    omega

theorem ownsRow_nil (w : World) (base e size : Nat) : w.ownsRow base e size (.slice none 0 0) 0 [] := ⟨by simp, .inl ⟨rfl, rfl⟩⟩

theorem ownsRow_ne {w : World} {base e size n g : Nat} {v : Value} {xs : List Value} {cs : Array Value} {e' : Nat} (h : w.ownsRow base e size v n xs) (hg : w.heap[g]? = some (.cells cs e')) (hne : e ≠ e') : v.ownBlock ≠ some g := by
  obtain ⟨_, ⟨rfl, _⟩ | ⟨g', cap, cur, rfl, _, hc, _⟩⟩ := h
  · simp [Value.ownBlock]
  · intro e1
    simp [Value.ownBlock] at e1
    subst e1
    rw [hc] at hg
    simp at hg
    exact hne hg.2

theorem ownsRow_below {w w' : World} {base e size n : Nat} {v : Value} {xs : List Value} (h : w.ownsRow base e size v n xs) (hb : Below w.heap.size w w') : w'.ownsRow base e size v n xs := by
  obtain ⟨hl, h1 | ⟨g, cap, cur, rfl, hbb, hc, r⟩⟩ := h
  · exact ⟨hl, .inl h1⟩
  · exact ⟨hl, .inr ⟨g, cap, cur, rfl, hbb, (hb.block g (Array.getElem?_eq_some_iff.1 hc).1).trans hc, r⟩⟩

theorem ownsRow_base {w : World} {base base' e size n : Nat} {v : Value} {xs : List Value} (h : w.ownsRow base e size v n xs) (hb : base' ≤ base) : w.ownsRow base' e size v n xs := by
  obtain ⟨hl, h1 | ⟨g, cap, cur, rfl, hbb, r⟩⟩ := h
  · exact ⟨hl, .inl h1⟩
  · exact ⟨hl, .inr ⟨g, cap, cur, rfl, Nat.le_trans hb hbb, r⟩⟩

end Go.Proofs.YtdgonddimenmdaaGreat
