/-
  The law FnExactFreeIn answers true at all bytes.
-/
import Derived.Test.YtcjkjenebnodbaaDSum
namespace Go.Proofs.Ytcjkjenebnodbaa.Dr
open Go.RowKit
set_option linter.unusedVariables false

def freeN (zs : List Int) : Nat := 62 - 2 * nb zs 0 - lens zs (nb zs 0)
def freeOf (zs : List Int) : Int := if fltOf zs = 0 then (freeN zs : Int) else 0

set_option maxHeartbeats 1000000 in
theorem l2Free_any (a : Option Addr) (zs : List Int) (c : Nat) (w : World) (hr : Reads w a zs) (h : Fine zs) :
    Calls Try.prog 145 #[.slice a 64 c] w fun e w' => e = .returned (.int .i64 (freeN zs)) ∧ w' = w := by
  have hc := h.few
  have hf := h.sum
  unfold freeN
  obtain ⟨n, hn⟩ : ∃ n, n = nb zs 0 := ⟨_, rfl⟩
  have HN : Hid (nb zs 0 = n) := hn.symm
  rw [← hn] at hc hf ⊢
  clear hn
  go_enter Try.func145, Try.ntmps145
  go_wp2_with fail
  refine (l2Count_any a zs c _ hr h.pg).mono ?_
  rintro e w' ⟨rfl, rfl⟩
  rw [HN.out]
  go_wp2_with fail
  go_loop [3, 4] (fun fr i => ∃ k f : Nat, k ≤ n ∧ i = .int .i64 k ∧ fr = .int .i64 f ∧ Hid (f + 2 + 2 * n + lens zs k = 64)) (fun _ i => n - (intOf i).toNat)
  case atStart => exact ⟨0, 62 - 2 * n, by omega, rfl, by go_num, by show _ = 64; simp only [lens]; omega⟩
  case round =>
    obtain ⟨k, f, hk, rfl, rfl, HF⟩ := hrel
    go_wp2_with fail
    refine (l2Count_any a zs c _ hr h.pg).mono ?_
    rintro e w' ⟨rfl, rfl⟩
    rw [HN.out]
    by_cases hlt : k < n
    · have hi : (k : Int) < (n : Int) := by omega
      have hlen : nb zs (3 + 2 * k) ≤ f := by
        have h1 := HF.out
        have h2 := lens_le zs (k + 1) (n - (k + 1))
        rw [show k + 1 + (n - (k + 1)) = n by omega, lens] at h2
        omega
      have hf64 : f ≤ 64 := by have := HF.out; omega
      go_wp2_with fail
      refine (l2Size_any a zs c k _ hr h.pg (by omega)).mono ?_
      rintro e w' ⟨rfl, rfl⟩
      obtain ⟨l, hl⟩ : ∃ l, l = nb zs (3 + 2 * k) := ⟨_, rfl⟩
      rw [← hl] at hlen ⊢
      have HL : Hid (l = nb zs (3 + 2 * k)) := hl
      clear hl
      go_wp2_with fail
      go_round
      case rel => exact ⟨k + 1, f - l, by omega, by go_num, by go_num, by show f - l + 2 + 2 * n + lens zs (k + 1) = 64; have := HF.out; have := HL.out; rw [lens]; omega⟩
      case measure => simp [intOf]; omega
    · have e : k = n := by omega
      subst e
      have HE : Hid (f = 62 - 2 * k - lens zs k) := by have := HF.out; show f = _; omega
      go_wp2_with fail
      go_ret
      exact ⟨by rw [← HE.out]; rfl, rfl⟩

/-- Block b holds the two cells of an IntResult, and may be written. -/
structure IRes (w : World) (b : Nat) (q v : Int) : Prop where
  c0 : w.cell? ⟨b, 0, none⟩ = some (.int .i64 q)
  c1 : w.cell? ⟨b, 1, none⟩ = some (.int .i64 v)
  f0 : w.frozen? ⟨b, 0, none⟩ = false
  f1 : w.frozen? ⟨b, 1, none⟩ = false
theorem IRes.lt {b : Nat} {w : World} {q v : Int} (h : IRes w b q v) : b < w.heap.size := World.block_lt_of_cell? w _ h.c0
theorem IRes.below {b : Nat} {w w' : World} {q v : Int} (h : IRes w b q v) (hb : Below w.heap.size w w') : IRes w' b q v :=
  ⟨(hb.cell (p := ⟨b, 0, none⟩) h.lt).trans h.c0, (hb.cell (p := ⟨b, 1, none⟩) h.lt).trans h.c1, (hb.frozen (p := ⟨b, 0, none⟩) h.lt).trans h.f0, (hb.frozen (p := ⟨b, 1, none⟩) h.lt).trans h.f1⟩

def freeV (zs : List Int) : Value := .agg #[.int .i64 (fltOf zs), .int .i64 (freeOf zs)]

end Go.Proofs.Ytcjkjenebnodbaa.Dr

