/-
  The program's rowsByKey; the model's l6At.
-/
import Derived.Test.YtmnnkgcknkhgdaaGreatDoorChd
namespace Go.Proofs.YtmnnkgcknkhgdaaGreatDoor
open Go.RowKit Go.Maps
set_option linter.unusedVariables false

def rwK (r : Rw) : (Int × Int) × Value := ((r.t, r.k), rwA r)
/-- Where the row of that key is; none: -1. -/
def AtP (rs : List Rw) (t k : Int) (r : Int) : Prop := (r = -1 ∧ ∀ x ∈ rs, ¬ (x.t = t ∧ x.k = k)) ∨ ∃ (i : Nat) (x : Rw), r = i ∧ rs[i]? = some x ∧ x.t = t ∧ x.k = k

set_option maxHeartbeats 1000000 in
theorem l6At_any (a : Option Addr) (rs : List Rw) (n c : Nat) (t k : Int) (w : World) (hn : rs.length = n) (hm : n ≤ 100000) (hr : Rs rwE 4 w a rs) :
    Calls Tryz.prog 46 #[.slice a n c, .int .i64 t, .int .i64 k] w fun e w' => ∃ r : Int, e = .returned (.int .i64 r) ∧ AtP rs t k r ∧ w' = w := by
  have HN : Hid (rs.length = n) := hn
  have HR : Hid (Rs rwE 4 w a rs) := hr
  clear hn hr
  go_enter Tryz.func46, Tryz.ntmps46
  go_wp2_with fail
  go_loopw [7] (fun i wr => ∃ j : Nat, j ≤ n ∧ i = .int .i64 j ∧ Hid (∀ x ∈ rs.take j, ¬ (x.t = t ∧ x.k = k)) ∧ wr = w) (fun i _ => n - (intOf i).toNat)
  case atStart => exact ⟨0, Nat.zero_le _, rfl, by intro x hx; simp at hx, rfl⟩
  case round =>
    obtain ⟨j, hj, rfl, hf, rfl⟩ := hrel
    by_cases hlt : j < n
    · obtain ⟨x, hx⟩ := at_lt (rs := rs) (i := j) (by rw [HN.out]; exact hlt)
      obtain ⟨b, off, rfl, X'⟩ := HR.out.row hx
      have hjn : (j : Int) < (n : Int) := by omega
      have HX : Hid (rs[j]? = some x) := hx
      have HF : Hid (¬ (x.t = t ∧ x.k = k) → ∀ y ∈ rs.take (j + 1), ¬ (y.t = t ∧ y.k = k)) := fun hne y hy => by
        rw [take_snoc hx] at hy
        rcases List.mem_append.1 hy with h | h
        · exact hf.out y h
        · simp at h; subst h; exact hne
      clear hx hf
      obtain ⟨xt, xk, xv, xs0⟩ := x
      obtain ⟨x0, x1, x2, x3⟩ := X'
      dsimp only at x0 x1 x2 x3
      by_cases h1 : xt = t
      · subst h1
        by_cases h2 : xk = k
        · subst h2
          go_wp2_with fail
          go_ret
          exact ⟨j, rfl, .inr ⟨j, _, rfl, HX.out, rfl, rfl⟩, rfl⟩
        · have HF2 : Hid (∀ y ∈ rs.take (j + 1), ¬ (y.t = xt ∧ y.k = k)) := HF.out (fun h => h2 h.2)
          have d2 : (xk == k) = false := by simpa using h2
          go_wp2_with fail
          go_roundw
          case rel => exact ⟨j + 1, by omega, by go_num, HF2, by simp⟩
          case measure => simp [intOf]; omega
      · have HF2 : Hid (∀ y ∈ rs.take (j + 1), ¬ (y.t = t ∧ y.k = k)) := HF.out (fun h => h1 h.1)
        have d1 : (xt == t) = false := by simpa using h1
        go_wp2_with fail
        go_roundw
        case rel => exact ⟨j + 1, by omega, by go_num, HF2, by simp⟩
        case measure => simp [intOf]; omega
    · have HF2 : Hid (∀ x ∈ rs, ¬ (x.t = t ∧ x.k = k)) := by
        have := hf.out
        rw [List.take_of_length_le (by rw [HN.out]; omega)] at this
        exact this
      have hjn : ¬ (j : Int) < (n : Int) := by omega
      clear hf
      go_wp2_with fail
      go_ret
      exact ⟨-1, rfl, .inl ⟨rfl, HF2.out⟩, rfl⟩

end Go.Proofs.YtmnnkgcknkhgdaaGreatDoor


