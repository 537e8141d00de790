/-
  lwRows: are two lists of rows the same? lwBig: no, while there are few bytes.
-/
import Derived.Test.YthhkgpflodeleaaFCRwg
import Derived.Test.YthhkgpflodeleaaFCFla
import Derived.Test.YthhkgpflodeleaaFCKvs
import Derived.BigQuiet

namespace Go.Proofs.Ythhkgpflodeleaa
open Go.RowKit
set_option linter.unusedVariables false
set_option maxRecDepth 20000

set_option maxHeartbeats 400000 in
theorem lwBig_any (a : Option Addr) (n c : Nat) (w : World) : Calls Try.prog 4 #[.slice a n c] w fun e w' => e = .returned (.bool (decide ((1048576 : Int) < (n : Int)))) ∧ w' = w := by
  go_enter Try.func4, Try.ntmps4
  go_wp2
  go_ret
  exact ⟨rfl, rfl⟩

set_option maxHeartbeats 4000000 in
theorem lwRows_any (a a' : Option Addr) (bs az : List Rw) (n n' c c' : Nat) (eb : Bool) (w : World) (he : eb = true ↔ bs = az) (hn : bs.length = n) (hn' : az.length = n') (hm : n ≤ 100000) (hm' : n' ≤ 100000) (hr : Rs rwE 4 w a bs) (hr' : Rs rwE 4 w a' az) :
    Calls Try.prog 11 #[.slice a n c, .slice a' n' c'] w fun e w' => e = .returned (.bool eb) ∧ Below w.heap.size w w' := by
  have HN : Hid (bs.length = n ∧ az.length = n') := ⟨hn, hn'⟩
  have HR : Hid (Rs rwE 4 w a bs ∧ Rs rwE 4 w a' az) := ⟨hr, hr'⟩
  have HB : Hid (eb = true ↔ bs = az) := he
  clear hn hn' hr hr' he
  go_enter Try.func11, Try.ntmps11
  by_cases hl : n = n'
  case neg =>
    have dl : ((n : Int) == (n' : Int)) = false := by simp; omega
    have HE : Hid (eb = false) := by
      show _ = _
      cases h : eb
      · rfl
      · have e := HB.out.1 h
        have := HN.out
        rw [e] at this
        omega
    go_wp2_with fail
    go_ret
    exact ⟨by rw [HE.out]; rfl, by go_grown⟩
  case pos =>
    subst hl
    go_wp2_with fail
    go_loopw [5] (fun i wr => ∃ j : Nat, j ≤ n ∧ i = .int .i64 j ∧ Below w.heap.size w wr ∧ bs.take j = az.take j) (fun i _ => n - (intOf i).toNat)
    case atStart => exact ⟨0, Nat.zero_le _, rfl, Below.refl _ _, rfl⟩
    case round =>
      obtain ⟨j, hj, rfl, g, htk⟩ := hrel
      by_cases hlt : j < n
      · obtain ⟨x, hx⟩ := at_lt (rs := bs) (i := j) (by rw [HN.out.1]; exact hlt)
        obtain ⟨y, hy⟩ := at_lt (rs := az) (i := j) (by rw [HN.out.2]; exact hlt)
        have HD : Hid (x ≠ y → eb = false) := fun hne => by
          cases h : eb
          · rfl
          · have e := HB.out.1 h
            rw [e, hy] at hx
            exact absurd (Option.some.inj hx).symm hne
        have HST : Hid (x = y → bs.take (j + 1) = az.take (j + 1)) := fun e => by
          rw [take_snoc hx, take_snoc hy, htk, e]
        obtain ⟨b, off, rfl, X⟩ := HR.out.1.row hx
        obtain ⟨b', off', rfl, X'⟩ := HR.out.2.row hy
        have hjn : (j : Int) < (n : Int) := by omega
        have X := X.below g (World.block_lt_of_cell? _ _ X.c0)
        have X' := X'.below g (World.block_lt_of_cell? _ _ X'.c0)
        clear hx hy htk
        obtain ⟨xt, xk, xv, xs⟩ := x
        obtain ⟨yt, yk, yv, ys⟩ := y
        obtain ⟨x0, x1, x2, x3⟩ := X
        obtain ⟨y0, y1, y2, y3⟩ := X'
        dsimp only at x0 x1 x2 x3 y0 y1 y2 y3
        by_cases ht : xt = yt
        · subst ht
          by_cases hk : xk = yk
          · subst hk
            by_cases hv : xv = yv
            · subst hv
              by_cases hs : xs = ys
              · subst hs
                have HS : Hid (bs.take (j + 1) = az.take (j + 1)) := HST.out rfl
                go_upto_region 6 with (fail)
                go_quiet (fail)
                go_wp2_with fail
                go_roundw
                case rel => exact ⟨j + 1, by omega, by go_num, g.trans ⟨rfl, rfl, rfl, Nat.le_refl _, fun _ _ => rfl⟩, HS.out⟩
                case measure => simp [intOf]; omega
              · have hne : (⟨xt, xk, xv, xs⟩ : Rw) ≠ ⟨xt, xk, xv, ys⟩ := fun e => hs (by cases e; rfl)
                have dd : ¬ xs.toList = ys.toList := fun h => hs (by rw [ByteArray.toList_eq, ByteArray.toList_eq] at h; exact ByteArray.ext (Array.toList_inj.1 h))
                have HE : Hid (eb = false) := HD.out hne
                clear hne
                go_upto_region 6 with (fail)
                go_quiet (fail)
                go_wp2_with fail
                go_ret
                exact ⟨by rw [HE.out]; rfl, g.trans ⟨rfl, rfl, rfl, Nat.le_refl _, fun _ _ => rfl⟩⟩
            · have hne : (⟨xt, xk, xv, xs⟩ : Rw) ≠ ⟨xt, xk, yv, ys⟩ := fun e => hv (by cases e; rfl)
              have dd : (xv == yv) = false := by simpa using hv
              have HE : Hid (eb = false) := HD.out hne
              clear hne
              go_upto_region 6 with (fail)
              go_quiet (fail)
              go_wp2_with fail
              go_ret
              exact ⟨by rw [HE.out]; rfl, g.trans ⟨rfl, rfl, rfl, Nat.le_refl _, fun _ _ => rfl⟩⟩
          · have hne : (⟨xt, xk, xv, xs⟩ : Rw) ≠ ⟨xt, yk, yv, ys⟩ := fun e => hk (by cases e; rfl)
            have dd : (xk == yk) = false := by simpa using hk
            have HE : Hid (eb = false) := HD.out hne
            clear hne
            go_upto_region 6 with (fail)
            go_quiet (fail)
            go_wp2_with fail
            go_ret
            exact ⟨by rw [HE.out]; rfl, g.trans ⟨rfl, rfl, rfl, Nat.le_refl _, fun _ _ => rfl⟩⟩
        · have hne : (⟨xt, xk, xv, xs⟩ : Rw) ≠ ⟨yt, yk, yv, ys⟩ := fun e => ht (by cases e; rfl)
          have dd : (xt == yt) = false := by simpa using ht
          have HE : Hid (eb = false) := HD.out hne
          clear hne
          go_upto_region 6 with (fail)
          go_quiet (fail)
          go_wp2_with fail
          go_ret
          exact ⟨by rw [HE.out]; rfl, g.trans ⟨rfl, rfl, rfl, Nat.le_refl _, fun _ _ => rfl⟩⟩
      · have hjn : ¬ (j : Int) < (n : Int) := by omega
        have HE : Hid (eb = true) := HB.out.2 (by
          have e : j = n := by omega
          subst e
          rw [← List.take_length (l := bs), ← List.take_length (l := az), HN.out.1, HN.out.2]
          exact htk)
        clear htk
        go_wp2_with fail
        go_ret
        exact ⟨by rw [HE.out]; rfl, g⟩

end Go.Proofs.Ythhkgpflodeleaa
