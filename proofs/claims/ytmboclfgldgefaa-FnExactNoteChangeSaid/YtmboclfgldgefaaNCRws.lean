/-
  Rows in slices: what they read as; szRowS, toRowS, eqRowS.
-/
import Derived.Test.YtmboclfgldgefaaNCRowA
import Derived.Test.YtmboclfgldgefaaNCRowC
import Derived.Test.YtmboclfgldgefaaNCRowB
import Derived.Test.YtmboclfgldgefaaNCUnp
import Derived.Deep.Cut
import Derived.Deep.RegionHeld
import Derived.Lib.AppendStr
import Derived.Lib.SmallJoins
import Derived.Deep.MidRow
import Derived.Laws.CopyOwn

namespace Go.Proofs.Ytmboclfgldgefaa
open Go.RowKit
set_option linter.unusedVariables false

/-- A row. -/
structure Rw where
  t : Int
  k : Int
  v : Int
  s : ByteArray

def rwE (r : Rw) : List Value := [.int .i64 r.t, .int .i64 r.k, .int .i64 r.v, .string r.s]
def rwA (r : Rw) : Value := .agg #[.int .i64 r.t, .int .i64 r.k, .int .i64 r.v, .string r.s]
theorem rwE_len (r : Rw) : (rwE r).length = 4 := rfl

/-- Four cells of a row, at a place. -/
structure RowC (w : World) (b o : Nat) (r : Rw) : Prop where
  c0 : w.cell? ⟨b, o, none⟩ = some (.int .i64 r.t)
  c1 : w.cell? ⟨b, o + 1, none⟩ = some (.int .i64 r.k)
  c2 : w.cell? ⟨b, o + 2, none⟩ = some (.int .i64 r.v)
  c3 : w.cell? ⟨b, o + 3, none⟩ = some (.string r.s)

theorem RowC.below {w w' : World} {b o : Nat} {r : Rw} (h : RowC w b o r) {B : Nat} (hb : Below B w w') (hB : b < B) : RowC w' b o r :=
  ⟨(hb.cell (p := ⟨b, _, none⟩) hB).trans h.c0, (hb.cell (p := ⟨b, _, none⟩) hB).trans h.c1, (hb.cell (p := ⟨b, _, none⟩) hB).trans h.c2, (hb.cell (p := ⟨b, _, none⟩) hB).trans h.c3⟩

theorem RowC.of {w : World} {b o : Nat} {r : Rw} (h : ∀ j u, (rwE r)[j]? = some u → w.cell? ⟨b, o + j, none⟩ = some u) : RowC w b o r := ⟨h 0 _ rfl, h 1 _ rfl, h 2 _ rfl, h 3 _ rfl⟩

theorem Rs.row {w : World} {a : Option Addr} {rs : List Rw} (h : Rs rwE 4 w a rs) {i : Nat} {r : Rw} (hr : rs[i]? = some r) : ∃ b off, a = some ⟨b, off, none⟩ ∧ RowC w b (off + i * 4) r := by
  rcases h with h | ⟨b, off, ha, hc⟩
  · rw [h] at hr; simp at hr
  · exact ⟨b, off, ha, RowC.of (hc i r hr)⟩

theorem Rs.rowAt {w : World} {b off : Nat} {rs : List Rw} (h : Rs rwE 4 w (some ⟨b, off, none⟩) rs) {i : Nat} {r : Rw} (hr : rs[i]? = some r) : RowC w b (off + i * 4) r := by
  obtain ⟨b', off', ha, hc⟩ := h.row hr
  simp only [Option.some.injEq, Addr.mk.injEq, and_true] at ha
  obtain ⟨rfl, rfl⟩ := ha
  exact hc

theorem eqKeep {w W V : World} {S : World → Prop} (h : ∀ V, Below w.heap.size w V → S V) (h1 : Below w.heap.size w W) (hb : Below W.heap.size W V) : Below w.heap.size w V ∧ S V :=
  ⟨h1.trans (hb.mono h1.size), h V (h1.trans (hb.mono h1.size))⟩

theorem eqKeepD {w V : World} {S : World → Prop} (h : ∀ V, Below w.heap.size w V → S V) (hb : Below w.drew.heap.size w.drew V) : Below w.heap.size w V ∧ S V :=
  eqKeep h (Below.refl _ _).drew hb

theorem at_lt {rs : List Rw} {i : Nat} (h : i < rs.length) : ∃ r, rs[i]? = some r := ⟨rs[i], List.getElem?_eq_getElem h⟩

set_option maxHeartbeats 400000 in
theorem szRowS_any (a : Option Addr) (rs : List Rw) (n c : Nat) (w : World) (k : Int) (hn : rs.length = n) (hm : n ≤ 9223372036854775807) (hs : ∀ r ∈ rs, r.s.size ≤ maxLen) (hr : Rs rwE 4 w a rs) (hk0 : 0 ≤ k) (hk : k ≤ 1048576) :
    Calls Try.prog 16 #[.slice a n c, .int .i64 k] w fun e w' => (∃ r : Int, e = .returned (.int .i64 r) ∧ r ≤ 1048576 ∧ (0 ≤ r → n ≤ 1048576 ∧ ∀ x ∈ rs, x.s.size ≤ 1048576)) ∧ Below w.heap.size w w' := by
  by_cases h : k < n
  · have d : (k - (n : Int) < 0) := by omega
    go_enter Try.func16, Try.ntmps16
    go_wp2_with fail
    go_ret
    exact ⟨⟨-1, rfl, by omega, by omega⟩, Below.refl _ _⟩
  · have d : ¬ (k - (n : Int) < 0) := by omega
    by_cases h0 : n = 0
    · subst h0
      obtain rfl : rs = [] := List.length_eq_zero_iff.1 hn
      go_enter Try.func16, Try.ntmps16
      go_wp2_with fail
      go_rounds 1
      go_ret
      exact ⟨⟨_, rfl, by omega, fun _ => ⟨by omega, fun x hx => by simp at hx⟩⟩, Below.refl _ _⟩
    have HR := hr
    rcases hr with hr | ⟨b, off, rfl, hc⟩
    · exfalso; rw [hr] at hn; simp at hn; omega
    clear hc
    have hb0 : b < w.heap.size := by
      obtain ⟨r, hr⟩ := at_lt (rs := rs) (i := 0) (by omega)
      exact World.block_lt_of_cell? w _ (HR.rowAt hr).c0
    have HR : Hid (Rs rwE 4 w (some ⟨b, off, none⟩) rs) := HR
    have HS : Hid (∀ r ∈ rs, r.s.size ≤ maxLen) := hs
    have HN : Hid (rs.length = n) := hn
    clear hn hs
    go_enter Try.func16, Try.ntmps16
    go_wp2_with fail
    go_loopw [5, 1] (fun i l wr => ∃ (j : Nat) (m : Int), j ≤ n ∧ i = .int .i64 j ∧ l = .int .i64 m ∧ 0 ≤ m ∧ m ≤ 1048576 ∧ Hid (∀ x ∈ rs.take j, x.s.size ≤ 1048576) ∧ Below w.heap.size w wr) (fun i _ _ => n - (intOf i).toNat)
    case atStart => exact ⟨0, _, Nat.zero_le _, rfl, rfl, by omega, by omega, fun x hx => by simp at hx, Below.refl _ _⟩
    case round =>
      obtain ⟨j, m, hj, rfl, rfl, hm0, hm1, hall, g⟩ := hrel
      by_cases hlt : j < n
      · obtain ⟨r, hr⟩ := at_lt (rs := rs) (i := j) (by rw [HN.out]; exact hlt)
        obtain ⟨e0, e1, e2, e3⟩ := (HR.out.rowAt hr).below g hb0
        have hrm : r ∈ rs := List.mem_of_getElem? hr
        have hjn : (j : Int) < (n : Int) := by omega
        have hsl := HS.out r hrm
        have HT : Hid (rs.take (j + 1) = rs.take j ++ [r]) := by
          obtain ⟨hl, e⟩ := List.getElem?_eq_some_iff.1 hr
          show _ = _
          rw [← e]; exact List.take_succ_eq_append_getElem hl
        clear hr hrm
        obtain ⟨rt, rk, rv, rs'⟩ := r
        dsimp only at e0 e1 e2 e3 hsl
        by_cases hfit : (rs'.size : Int) ≤ m
        · go_wp2_with fail
          refine (szRow_fits rt rk rv rs' m _ hfit (by omega)).mono ?_
          rintro e w' ⟨rfl, g'⟩
          have g : Below w.heap.size w w' := g.trans (g'.mono g.size)
          clear g' e0 e1 e2 e3
          have dr : ¬ (m - (rs'.size : Int) < 0) := by omega
          have H2 : Hid (∀ x ∈ rs.take (j + 1), x.s.size ≤ 1048576) := by
            intro x hx
            rw [HT.out] at hx
            rcases List.mem_append.1 hx with hx | hx
            · exact hall.out x hx
            · simp at hx; subst hx; simp only; omega
          obtain ⟨q, hq⟩ : ∃ q : Int, q = m - (rs'.size : Int) := ⟨_, rfl⟩
          have hq0 : 0 ≤ q := by omega
          have hq1 : q ≤ 1048576 := by omega
          rw [← hq] at dr ⊢
          clear hq HT hall
          go_wp2_with fail
          go_roundw
          case rel => exact ⟨j + 1, q, by omega, by go_num, rfl, hq0, hq1, H2, g⟩
          case measure => simp [intOf]; omega
        · go_wp2_with fail
          refine (szRow_over rt rk rv rs' m _ hsl hm0 (by omega) (by omega)).mono ?_
          rintro e w' ⟨rfl, g'⟩
          have g : Below w.heap.size w w' := g.trans (g'.mono g.size)
          clear g' e0 e1 e2 e3
          go_wp2_with fail
          go_ret
          exact ⟨⟨-1, rfl, by omega, by omega⟩, g⟩
      · have e : j = n := by omega
        subst e
        go_wp2_with fail
        go_ret
        refine ⟨⟨_, rfl, by omega, fun _ => ⟨by omega, fun x hx => ?_⟩⟩, g⟩
        exact hall.out x (by rw [List.take_of_length_le (by rw [HN.out]; exact Nat.le_refl _)]; exact hx)

end Go.Proofs.Ytmboclfgldgefaa
