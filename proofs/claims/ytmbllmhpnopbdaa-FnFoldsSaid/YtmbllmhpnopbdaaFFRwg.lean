/-
  Whether rows rise: the model's RowsFault.
-/
import Derived.Test.YtmbllmhpnopbdaaFFRwf
import Derived.Deep.SlicePairs
import Derived.OpenShut
import Derived.ProofKit
import Derived.Maps.AppendAt

namespace Go.Proofs.Ytmbllmhpnopbdaa
open Go.RowKit
set_option linter.unusedVariables false

theorem RowC.drews {w : World} {b o : Nat} {r : Rw} (h : RowC w b o r) (n : Nat) : RowC (w.drewN n) b o r := ⟨h.c0, h.c1, h.c2, h.c3⟩

set_option maxHeartbeats 400000 in
theorem l1BeforeO_any (a oa b ob : Nat) (t k u l : Int) (w : World) (ha0 : w.cell? ⟨a, oa, none⟩ = some (.int .i64 t)) (ha1 : w.cell? ⟨a, oa + 1, none⟩ = some (.int .i64 k)) (hb0 : w.cell? ⟨b, ob, none⟩ = some (.int .i64 u)) (hb1 : w.cell? ⟨b, ob + 1, none⟩ = some (.int .i64 l)) :
    Calls Try.prog 50 #[.pointer (some ⟨a, oa, none⟩), .pointer (some ⟨b, ob, none⟩)] w fun e w' => e = .returned (.bool (befB t k u l)) ∧ ∃ n, w' = w.drewN n := by
  by_cases h1 : t < u
  · have e1 : befB t k u l = true := by simp [befB, h1]
    have d1 : decide (t < u) = true := by simpa using h1
    rw [e1]
    go_enter Try.func50, Try.ntmps50
    go_wp2
    go_quiet (fail)
    go_wp2
    go_ret
    exact ⟨rfl, _, rfl⟩
  · have d1 : decide (t < u) = false := by simpa using h1
    by_cases h2 : t = u
    · subst h2
      by_cases h3 : k < l
      · have e1 : befB t k t l = true := by simp [befB, h3]
        rw [e1]
        go_enter Try.func50, Try.ntmps50
        go_wp2
        go_quiet (fail)
        go_wp2
        go_ret
        exact ⟨rfl, _, rfl⟩
      · have e1 : befB t k t l = false := by simp [befB]; omega
        have d3 : decide (k < l) = false := by simpa using h3
        rw [e1]
        go_enter Try.func50, Try.ntmps50
        go_wp2
        go_quiet (fail)
        go_wp2
        go_ret
        exact ⟨rfl, _, rfl⟩
    · have e1 : befB t k u l = false := by simp [befB]; omega
      have d2 : (t == u) = false := by simpa using h2
      rw [e1]
      go_enter Try.func50, Try.ntmps50
      go_wp2
      go_quiet (fail)
      go_wp2
      go_ret
      exact ⟨rfl, _, rfl⟩

set_option maxHeartbeats 400000 in
theorem l1FaultO_any (b o : Nat) (t k v : Int) (s : ByteArray) (w : World) (h : RowC w b o ⟨t, k, v, s⟩) (hs : s.size ≤ maxLen) :
    Calls Try.prog 55 #[.pointer (some ⟨b, o, none⟩)] w fun e w' => e = .returned (.int .i64 (faultI t k v s)) ∧ w' = w := by
  obtain ⟨c0, c1, c2, c3⟩ := h
  dsimp only at c0 c1 c2 c3
  cases h1 : inW t 0 3
  · rw [fault_t t k v s h1]
    go_enter Try.func55, Try.ntmps55
    go_wp2_with (go_at_call 64; refine (l1InW_any _ _ _ _).mono ?_; rintro e w' ⟨rfl, rfl⟩)
    go_ret
    exact ⟨rfl, rfl⟩
  cases h2 : inW k 1 99
  · rw [fault_k t k v s h2]
    go_enter Try.func55, Try.ntmps55
    go_wp2_with (go_at_call 64; refine (l1InW_any _ _ _ _).mono ?_; rintro e w' ⟨rfl, rfl⟩)
    go_ret
    exact ⟨rfl, rfl⟩
  cases h3 : inW v 0 999
  · rw [fault_v t k v s h3]
    go_enter Try.func55, Try.ntmps55
    go_wp2_with (go_at_call 64; refine (l1InW_any _ _ _ _).mono ?_; rintro e w' ⟨rfl, rfl⟩)
    go_ret
    exact ⟨rfl, rfl⟩
  cases h4 : txtB s
  · rw [fault_s t k v s h1 h2 h3 h4]
    go_enter Try.func55, Try.ntmps55
    go_wp2_with (first | (go_at_call 64; refine (l1InW_any _ _ _ _).mono ?_; rintro e w' ⟨rfl, rfl⟩) | (go_at_call 65; refine (l1Text_any _ _ hs).mono ?_; rintro e w' ⟨rfl, rfl⟩))
    go_ret
    exact ⟨rfl, rfl⟩
  · rw [fault_0 t k v s h1 h2 h3 h4]
    go_enter Try.func55, Try.ntmps55
    go_wp2_with (first | (go_at_call 64; refine (l1InW_any _ _ _ _).mono ?_; rintro e w' ⟨rfl, rfl⟩) | (go_at_call 65; refine (l1Text_any _ _ hs).mono ?_; rintro e w' ⟨rfl, rfl⟩))
    go_ret
    exact ⟨rfl, rfl⟩


end Go.Proofs.Ytmbllmhpnopbdaa

/-
  What came in, opened: a slice of rows.
-/
namespace Go.Proofs.Ytmbllmhpnopbdaa
open Go.ChangeShapes Go.WideShapes Go.RowKit
set_option linter.unusedVariables false

structure IsRows (w : World) (a : Option Addr) (len : Nat) (rs : List Rw) : Prop where
  rd : Rs rwE 4 w a rs
  eq : rs.length = len
  ln : len ≤ 9223372036854775807
  sz : ∀ r ∈ rs, r.s.size ≤ maxLen
  wf : ∀ r ∈ rs, (Lit.int .i64 r.t).wf = true ∧ (Lit.int .i64 r.k).wf = true ∧ (Lit.int .i64 r.v).wf = true

instance : Inhabited Rw := ⟨⟨0, 0, 0, ⟨#[]⟩⟩⟩
theorem four {α : Type} (xs : List α) (h : xs.length = 4) : ∃ a b c d, xs = [a, b, c, d] := by
  match xs, h with
  | [a, b, c, d], _ => exact ⟨a, b, c, d, rfl⟩

theorem list_of_fun {α : Type} (q : Nat → α) (n : Nat) {i : Nat} {r : α} (h : ((List.range n).map q)[i]? = some r) : i < n ∧ r = q i := by
  rw [List.getElem?_map] at h
  cases e : (List.range n)[i]? with
  | none => rw [e] at h; simp at h
  | some m =>
    rw [e] at h
    simp at h
    obtain ⟨hl, hm⟩ := List.getElem?_eq_some_iff.1 e
    simp at hl hm
    exact ⟨hl, by rw [← h, ← hm]⟩

end Go.Proofs.Ytmbllmhpnopbdaa

/-
  Slices of structs that grow: plain facts of memory.
-/
namespace Go.Proofs.Ytmbllmhpnopbdaa
open Go.RowKit
set_option linter.unusedVariables false

theorem ownsRow_nil (w : World) (base e size : Nat) : w.ownsRow base e size (.slice none 0 0) 0 [] := ⟨by simp, .inl ⟨rfl, rfl⟩⟩

theorem ownsRow_ne {w : World} {base e size n g : Nat} {v : Value} {xs : List Value} {cs : Array Value} {e' : Nat} (h : w.ownsRow base e size v n xs) (hg : w.heap[g]? = some (.cells cs e')) (hne : e ≠ e') : v.ownBlock ≠ some g := by
  obtain ⟨_, ⟨rfl, _⟩ | ⟨g', cap, cur, rfl, _, hc, _⟩⟩ := h
  · simp [Value.ownBlock]
  · intro e1
    simp [Value.ownBlock] at e1
    subst e1
    rw [hc] at hg
    simp at hg
    exact hne hg.2

theorem ownsRow_below {w w' : World} {base e size n : Nat} {v : Value} {xs : List Value} (h : w.ownsRow base e size v n xs) (hb : Below w.heap.size w w') : w'.ownsRow base e size v n xs := by
  obtain ⟨hl, h1 | ⟨g, cap, cur, rfl, hbb, hc, r⟩⟩ := h
  · exact ⟨hl, .inl h1⟩
  · exact ⟨hl, .inr ⟨g, cap, cur, rfl, hbb, (hb.block g (Array.getElem?_eq_some_iff.1 hc).1).trans hc, r⟩⟩

theorem ownsRow_base {w : World} {base base' e size n : Nat} {v : Value} {xs : List Value} (h : w.ownsRow base e size v n xs) (hb : base' ≤ base) : w.ownsRow base' e size v n xs := by
  obtain ⟨hl, h1 | ⟨g, cap, cur, rfl, hbb, r⟩⟩ := h
  · exact ⟨hl, .inl h1⟩
  · exact ⟨hl, .inr ⟨g, cap, cur, rfl, Nat.le_trans hb hbb, r⟩⟩

theorem cells_new (w : World) (vs : List Value) (t : TypeId) : ∀ j u, vs[j]? = some u → (w.alloc (.cells vs.toArray t)).cell? ((⟨w.heap.size, 0, none⟩ : Addr).add j) = some u := by
  intro j u hu
  have ea : (⟨w.heap.size, 0, none⟩ : Addr).add j = ⟨w.heap.size, j, none⟩ := by unfold Addr.add; split <;> simp_all
  rw [ea]
  unfold World.cell?
  simp only [heap_alloc_new]
  simpa using hu

theorem take_snoc {α : Type} {l : List α} {j : Nat} {z : α} (h : l[j]? = some z) : l.take (j + 1) = l.take j ++ [z] := by
  obtain ⟨hl, e⟩ := List.getElem?_eq_some_iff.1 h
  rw [← e]; exact List.take_succ_eq_append_getElem hl

theorem drop_cons {α : Type} {l : List α} {j : Nat} {z : α} (h : l[j]? = some z) : l.drop j = z :: l.drop (j + 1) := by
  obtain ⟨hl, e⟩ := List.getElem?_eq_some_iff.1 h
  rw [← e]; exact List.drop_eq_getElem_cons hl

theorem at_lt' {α : Type} {rs : List α} {i : Nat} (h : i < rs.length) : ∃ r, rs[i]? = some r := ⟨rs[i], List.getElem?_eq_getElem h⟩

theorem rs_one {α : Type} {enc : α → List Value} {k : Nat} (w : World) (y : α) (t : TypeId) : Rs enc k (w.alloc (.cells (enc y).toArray t)) (some ⟨w.heap.size, 0, none⟩) [y] := by
  refine .inr ⟨_, 0, rfl, fun i z hz j u hu => ?_⟩
  have hi : i = 0 := by
    have := (List.getElem?_eq_some_iff.1 hz).1
    simp at this; exact this
  subst hi
  simp at hz
  subst hz
  have := cells_new w (enc y) t j u hu
  have ea : (⟨w.heap.size, 0, none⟩ : Addr).add j = ⟨w.heap.size, j, none⟩ := by unfold Addr.add; split <;> simp_all
  rw [ea] at this
  simpa using this


end Go.Proofs.Ytmbllmhpnopbdaa
