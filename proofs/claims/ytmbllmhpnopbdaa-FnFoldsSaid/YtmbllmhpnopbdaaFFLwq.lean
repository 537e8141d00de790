/-
  lwRows: are two lists of rows the same? lwBig: no, while there are few bytes.
-/
import Derived.Test.YtmbllmhpnopbdaaFFRwg
import Derived.Test.YtmbllmhpnopbdaaFFFla
import Derived.Test.YtmbllmhpnopbdaaFFCbf
import Derived.BigQuiet
import Derived.Test.YtmbllmhpnopbdaaFFPit
import Derived.Test.YtmbllmhpnopbdaaFFFsh
import Derived.ProofKit
import Derived.Test.YtmbllmhpnopbdaaFFSrc

namespace Go.Proofs.Ytmbllmhpnopbdaa
open Go.RowKit
set_option linter.unusedVariables false
set_option maxRecDepth 20000

set_option maxHeartbeats 400000 in
theorem lwBig_any (a : Option Addr) (n c : Nat) (w : World) : Calls Try.prog 4 #[.slice a n c] w fun e w' => e = .returned (.bool (decide ((1048576 : Int) < (n : Int)))) ∧ w' = w := by
  go_enter Try.func4, Try.ntmps4
  go_wp2
  go_ret
  exact ⟨rfl, rfl⟩

set_option maxHeartbeats 4000000 in
theorem lwRows_any (a a' : Option Addr) (bs az : List Rw) (n n' c c' : Nat) (eb : Bool) (w : World) (he : eb = true ↔ bs = az) (hn : bs.length = n) (hn' : az.length = n') (hm : n ≤ 100000) (hm' : n' ≤ 100000) (hr : Rs rwE 4 w a bs) (hr' : Rs rwE 4 w a' az) :
    Calls Try.prog 9 #[.slice a n c, .slice a' n' c'] w fun e w' => e = .returned (.bool eb) ∧ Below w.heap.size w w' := by
  have HN : Hid (bs.length = n ∧ az.length = n') := ⟨hn, hn'⟩
  have HR : Hid (Rs rwE 4 w a bs ∧ Rs rwE 4 w a' az) := ⟨hr, hr'⟩
  have HB : Hid (eb = true ↔ bs = az) := he
  clear hn hn' hr hr' he
  go_enter Try.func9, Try.ntmps9
  by_cases hl : n = n'
  case neg =>
    have dl : ((n : Int) == (n' : Int)) = false := by simp; omega
    have HE : Hid (eb = false) := by
      show _ = _
      cases h : eb
      · rfl
      · have e := HB.out.1 h
        have := HN.out
        rw [e] at this
        omega
    go_wp2_with fail
    go_ret
    exact ⟨by rw [HE.out]; rfl, by go_grown⟩
  case pos =>
    subst hl
    go_wp2_with fail
    go_loopw [5] (fun i wr => ∃ j : Nat, j ≤ n ∧ i = .int .i64 j ∧ Below w.heap.size w wr ∧ bs.take j = az.take j) (fun i _ => n - (intOf i).toNat)
    case atStart => exact ⟨0, Nat.zero_le _, rfl, Below.refl _ _, rfl⟩
    case round =>
      obtain ⟨j, hj, rfl, g, htk⟩ := hrel
      by_cases hlt : j < n
      · obtain ⟨x, hx⟩ := at_lt (rs := bs) (i := j) (by rw [HN.out.1]; exact hlt)
        obtain ⟨y, hy⟩ := at_lt (rs := az) (i := j) (by rw [HN.out.2]; exact hlt)
        have HD : Hid (x ≠ y → eb = false) := fun hne => by
          cases h : eb
          · rfl
          · have e := HB.out.1 h
            rw [e, hy] at hx
            exact absurd (Option.some.inj hx).symm hne
        have HST : Hid (x = y → bs.take (j + 1) = az.take (j + 1)) := fun e => by
          rw [take_snoc hx, take_snoc hy, htk, e]
        obtain ⟨b, off, rfl, X⟩ := HR.out.1.row hx
        obtain ⟨b', off', rfl, X'⟩ := HR.out.2.row hy
        have hjn : (j : Int) < (n : Int) := by omega
        have X := X.below g (World.block_lt_of_cell? _ _ X.c0)
        have X' := X'.below g (World.block_lt_of_cell? _ _ X'.c0)
        clear hx hy htk
        obtain ⟨xt, xk, xv, xs⟩ := x
        obtain ⟨yt, yk, yv, ys⟩ := y
        obtain ⟨x0, x1, x2, x3⟩ := X
        obtain ⟨y0, y1, y2, y3⟩ := X'
        dsimp only at x0 x1 x2 x3 y0 y1 y2 y3
        by_cases ht : xt = yt
        · subst ht
          by_cases hk : xk = yk
          · subst hk
            by_cases hv : xv = yv
            · subst hv
              by_cases hs : xs = ys
              · subst hs
                have HS : Hid (bs.take (j + 1) = az.take (j + 1)) := HST.out rfl
                go_upto_region 6 with (fail)
                go_quiet (fail)
                go_wp2_with fail
                go_roundw
                case rel => exact ⟨j + 1, by omega, by go_num, g.trans ⟨rfl, rfl, rfl, Nat.le_refl _, fun _ _ => rfl⟩, HS.out⟩
                case measure => simp [intOf]; omega
              · have hne : (⟨xt, xk, xv, xs⟩ : Rw) ≠ ⟨xt, xk, xv, ys⟩ := fun e => hs (by cases e; rfl)
                have dd : ¬ xs.toList = ys.toList := fun h => hs (by rw [ByteArray.toList_eq, ByteArray.toList_eq] at h; exact ByteArray.ext (Array.toList_inj.1 h))
                have HE : Hid (eb = false) := HD.out hne
                clear hne
                go_upto_region 6 with (fail)
                go_quiet (fail)
                go_wp2_with fail
                go_ret
                exact ⟨by rw [HE.out]; rfl, g.trans ⟨rfl, rfl, rfl, Nat.le_refl _, fun _ _ => rfl⟩⟩
            · have hne : (⟨xt, xk, xv, xs⟩ : Rw) ≠ ⟨xt, xk, yv, ys⟩ := fun e => hv (by cases e; rfl)
              have dd : (xv == yv) = false := by simpa using hv
              have HE : Hid (eb = false) := HD.out hne
              clear hne
              go_upto_region 6 with (fail)
              go_quiet (fail)
              go_wp2_with fail
              go_ret
              exact ⟨by rw [HE.out]; rfl, g.trans ⟨rfl, rfl, rfl, Nat.le_refl _, fun _ _ => rfl⟩⟩
          · have hne : (⟨xt, xk, xv, xs⟩ : Rw) ≠ ⟨xt, yk, yv, ys⟩ := fun e => hk (by cases e; rfl)
            have dd : (xk == yk) = false := by simpa using hk
            have HE : Hid (eb = false) := HD.out hne
            clear hne
            go_upto_region 6 with (fail)
            go_quiet (fail)
            go_wp2_with fail
            go_ret
            exact ⟨by rw [HE.out]; rfl, g.trans ⟨rfl, rfl, rfl, Nat.le_refl _, fun _ _ => rfl⟩⟩
        · have hne : (⟨xt, xk, xv, xs⟩ : Rw) ≠ ⟨yt, yk, yv, ys⟩ := fun e => ht (by cases e; rfl)
          have dd : (xt == yt) = false := by simpa using ht
          have HE : Hid (eb = false) := HD.out hne
          clear hne
          go_upto_region 6 with (fail)
          go_quiet (fail)
          go_wp2_with fail
          go_ret
          exact ⟨by rw [HE.out]; rfl, g.trans ⟨rfl, rfl, rfl, Nat.le_refl _, fun _ _ => rfl⟩⟩
      · have hjn : ¬ (j : Int) < (n : Int) := by omega
        have HE : Hid (eb = true) := HB.out.2 (by
          have e : j = n := by omega
          subst e
          rw [← List.take_length (l := bs), ← List.take_length (l := az), HN.out.1, HN.out.2]
          exact htk)
        clear htk
        go_wp2_with fail
        go_ret
        exact ⟨by rw [HE.out]; rfl, g⟩

end Go.Proofs.Ytmbllmhpnopbdaa

/-
  lwChanges of the same changes.
-/
namespace Go.Proofs.Ytmbllmhpnopbdaa
open Go.RowKit
set_option linter.unusedVariables false
set_option maxRecDepth 20000

set_option maxHeartbeats 4000000 in
theorem lwChanges_same (a a' : Option Addr) (cs : List Chg) (n c c' : Nat) (w : World) (hn : cs.length = n) (hm : n ≤ 100000) (hr : Rs chE 10 w a cs) (hr' : Rs chE 10 w a' cs) :
    Calls Try.prog 10 #[.slice a n c, .slice a' n c'] w fun e w' => e = .returned (.bool true) ∧ Below w.heap.size w w' := by
  have HN : Hid (cs.length = n) := hn
  have HR : Hid (Rs chE 10 w a cs ∧ Rs chE 10 w a' cs) := ⟨hr, hr'⟩
  clear hn hr hr'
  go_enter Try.func10, Try.ntmps10
  go_wp2_with fail
  go_loopw [5] (fun i wr => ∃ j : Nat, j ≤ n ∧ i = .int .i64 j ∧ Below w.heap.size w wr) (fun i _ => n - (intOf i).toNat)
  case atStart => exact ⟨0, Nat.zero_le _, rfl, Below.refl _ _⟩
  case round =>
    obtain ⟨j, hj, rfl, g⟩ := hrel
    by_cases hlt : j < n
    · obtain ⟨x, hx⟩ : ∃ x, cs[j]? = some x := ⟨_, List.getElem?_eq_getElem (by rw [HN.out]; exact hlt)⟩
      obtain ⟨b, off, rfl, X⟩ := HR.out.1.chg hx
      obtain ⟨b', off', rfl, X'⟩ := HR.out.2.chg hx
      have hjn : (j : Int) < (n : Int) := by omega
      have X := X.below g X.lt
      have X' := X'.below g X'.lt
      clear hx
      obtain ⟨pw, ⟨bt, bk, bv, bs⟩, pi, ⟨at', ak, av, as'⟩⟩ := x
      obtain ⟨x0, x1, x2, x3, x4, x5, x6, x7, x8, x9⟩ := X
      obtain ⟨y0, y1, y2, y3, y4, y5, y6, y7, y8, y9⟩ := X'
      dsimp only at x0 x1 x2 x3 x4 x5 x6 x7 x8 x9 y0 y1 y2 y3 y4 y5 y6 y7 y8 y9
      go_upto_region 6 with (fail)
      go_quiet (fail)
      go_wp2_with fail
      go_roundw
      case rel => exact ⟨j + 1, by omega, by go_num, g.trans ⟨rfl, rfl, rfl, Nat.le_refl _, fun _ _ => rfl⟩⟩
      case measure => simp [intOf]; omega
    · have hjn : ¬ (j : Int) < (n : Int) := by omega
      go_wp2_with fail
      go_ret
      exact ⟨rfl, g⟩

end Go.Proofs.Ytmbllmhpnopbdaa

/-
  Picked.
-/
namespace Go.Proofs.Ytmbllmhpnopbdaa
open Go.ChangeShapes Go.WideShapes Go.RowKit Go.Maps
set_option linter.unusedVariables false
set_option maxRecDepth 20000

open Go.ChangeShapes Go.WideShapes Go.RowKit Go.Maps
set_option linter.unusedVariables false
set_option maxRecDepth 20000

/-- What the walk is told of a slice of integers that came in: it is nil; or it leads to a row of cap cells, the numbers zs, each fitting its kind. -/
def IsRow (k : IntKind) (w : World) (a : Option Addr) (len cap : Nat) (zs : List Int) : Prop :=
  (a = none ∧ len = 0 ∧ cap = 0 ∧ zs = []) ∨
  ∃ x, a = some x ∧ len ≤ cap ∧ cap ≤ maxLen ∧ zs.length = cap ∧ (∀ i, i < zs.length → w.cell? (x.add i) = some (.int k (zs.getD i 0))) ∧ ∀ n ∈ zs, (Lit.int k n).wf = true

theorem isRow_reads {w : World} {a : Option Addr} {len cap : Nat} {zs : List Int} (h : IsRow .u8 w a len cap zs) : (zs.take len).length = len ∧ len ≤ cap ∧ Reads w a (zs.take len) ∧ ∀ z ∈ zs.take len, 0 ≤ z ∧ z ≤ 255 := by
  rcases h with ⟨rfl, rfl, rfl, rfl⟩ | ⟨x, rfl, hl, hm, hz, hc, hw⟩
  · exact ⟨rfl, Nat.le_refl _, .inl rfl, fun z hz => by simp at hz⟩
  · refine ⟨by simp; omega, hl, ?_, fun z hzz => ?_⟩
    · by_cases h0 : len = 0
      · exact .inl (by simp [h0])
      · obtain ⟨b, off, spot⟩ := x
        have hc0 := hc 0 (by omega)
        have hspot : spot = none := by simpa [Addr.add] using World.cell?_spot hc0
        subst hspot
        refine .inr ⟨b, off, rfl, fun i hi => ?_⟩
        have hil : i < len := by simp at hi; omega
        have e := hc i (by omega)
        have ea : (⟨b, off, none⟩ : Addr).add i = ⟨b, off + i, none⟩ := by unfold Addr.add; split <;> simp_all
        rw [ea] at e
        rw [e]
        simp [List.getD, hil]
    · have := hw z (List.mem_of_mem_take hzz)
      exact bounds_u8 this
theorem lwBig_small (a : Option Addr) (n c : Nat) (w : World) (h : n ≤ 1048576) : Calls Try.prog 4 #[.slice a n c] w fun e w' => e = .returned (.bool false) ∧ w' = w := by
  have d : decide ((1048576 : Int) < (n : Int)) = false := by rw [decide_eq_false_iff_not]; omega
  refine (lwBig_any a n c w).mono ?_
  rintro e w' ⟨rfl, rfl⟩
  exact ⟨by rw [d], rfl⟩
theorem lwBig_big (a : Option Addr) (n c : Nat) (w : World) (h : 1048576 < n) : Calls Try.prog 4 #[.slice a n c] w fun e w' => e = .returned (.bool true) ∧ w' = w := by
  have d : decide ((1048576 : Int) < (n : Int)) = true := by rw [decide_eq_true_iff]; omega
  refine (lwBig_any a n c w).mono ?_
  rintro e w' ⟨rfl, rfl⟩
  exact ⟨by rw [d], rfl⟩

theorem cell_up {V W : World} {p : Addr} {v : Value} (h : V.cell? p = some v) (hb : Below V.heap.size V W) : W.cell? p = some v := (hb.cell (World.block_lt_of_cell? _ _ h)).trans h
theorem ShC.wide {cs : List Chg} (h : ShC cs) : ∀ x ∈ cs, x.b.s.size ≤ 1048576 ∧ x.a.s.size ≤ 1048576 := fun x hx => ⟨Nat.le_trans (h x hx).1 (by decide), Nat.le_trans (h x hx).2 (by decide)⟩

end Go.Proofs.Ytmbllmhpnopbdaa
