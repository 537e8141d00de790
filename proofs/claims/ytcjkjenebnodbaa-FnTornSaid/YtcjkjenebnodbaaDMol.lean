/-
  The contracts of the model's l2CellSize and l2Empty.
-/
import Derived.Test.YtcjkjenebnodbaaDAhe
namespace Go.Proofs.Ytcjkjenebnodbaa.Dr
open Go.RowKit
set_option linter.unusedVariables false
set_option maxHeartbeats 1000000 in
theorem l2Empty_any (a : Option Addr) (zs : List Int) (c : Nat) (w : World) (hr : Reads w a zs) (h : Fine zs) :
    Calls Try.prog 148 #[.slice a 64 c] w fun e w' => e = .returned (.int .i64 (firstE zs 0 (nb zs 0))) ∧ w' = w := by
  have hc := h.few
  obtain ⟨n, hn⟩ : ∃ n, n = nb zs 0 := ⟨_, rfl⟩
  have HN : Hid (nb zs 0 = n) := hn.symm
  rw [← hn] at hc ⊢
  clear hn
  go_enter Try.func148, Try.ntmps148
  go_wp2_with fail
  go_loop [3] (fun i => ∃ k : Nat, k ≤ n ∧ i = .int .i64 k ∧ Hid (firstE zs 0 n = firstE zs k (n - k))) (fun i => n - (intOf i).toNat)
  case atStart => exact ⟨0, by omega, rfl, rfl⟩
  case round =>
    obtain ⟨k, hk, rfl, HF⟩ := hrel
    go_wp2_with fail
    refine (l2Count_any a zs c _ hr h.pg).mono ?_
    rintro e w' ⟨rfl, rfl⟩
    rw [HN.out]
    by_cases hlt : k < n
    · have hi : (k : Int) < (n : Int) := by omega
      go_wp2_with fail
      refine (l2Size_any a zs c k _ hr h.pg (by omega)).mono ?_
      rintro e w' ⟨rfl, rfl⟩
      have hpl := h.place k (by rw [HN.out]; exact hlt)
      cases hE : empB zs k
      · have HS : Hid (firstE zs 0 n = firstE zs (k + 1) (n - (k + 1))) := by
          show _ = _
          rw [HF.out, show n - k = n - (k + 1) + 1 by omega, firstE, hE]
          rfl
        have hl : nb zs (3 + 2 * k) ≠ 0 := by
          rcases hpl with ⟨h1, h2⟩ | h1
          · simp [empB, h1, h2] at hE
          · exact h1.2.1
        obtain ⟨l, hll⟩ : ∃ l, l = nb zs (3 + 2 * k) := ⟨_, rfl⟩
        rw [← hll] at hl ⊢
        have dl : ((l : Int) == 0) = false := by simp; omega
        clear hE hll hl hpl
        go_wp2_with fail
        go_round
        case rel => exact ⟨k + 1, by omega, by go_num, HS⟩
        case measure => simp [intOf]; omega
      · have HS : Hid (firstE zs 0 n = k) := by
          show _ = _
          rw [HF.out, show n - k = n - (k + 1) + 1 by omega, firstE, hE]
          rfl
        have hl : nb zs (3 + 2 * k) = 0 := by simp [empB] at hE; exact hE.2
        rw [hl]
        clear hE hl hpl
        go_wp2_with fail
        go_ret
        exact ⟨by rw [HS.out]; rfl, rfl⟩
    · have e : k = n := by omega
      subst e
      go_wp2_with fail
      refine (l2Count_any a zs c _ hr h.pg).mono ?_
      rintro e w' ⟨rfl, rfl⟩
      rw [HN.out]
      go_wp2_with fail
      go_ret
      exact ⟨by rw [HF.out, Nat.sub_self]; rfl, rfl⟩

end Go.Proofs.Ytcjkjenebnodbaa.Dr

