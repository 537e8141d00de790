/-
  The contract of the model's UnpackCell, and what compares two answers of UnpackCell.
-/
import Derived.Test.YteebbaleejbodaaARUnpR
import Derived.Deep.Cut
import Derived.Test.YteebbaleejbodaaARFla
import Derived.Test.YteebbaleejbodaaARRowA
import Derived.Deep.MidRow
import Derived.Laws.CopyOwn

namespace Go.Proofs.Yteebbaleejbodaa
open Go.RowKit

/-- What l1Read tells. -/
def readC (zs : List Int) : Cel × Bool :=
  if zs.length = 3 ∧ zs.getD 0 0 = 1 then (⟨0, 1, zs.getD 1 0, zs.getD 2 0, 0, 0, 0, ⟨#[]⟩⟩, stubB (zs.getD 1 0) (zs.getD 2 0))
  else if 6 ≤ zs.length ∧ (zs.getD 0 0 = 0 ∨ zs.getD 0 0 = 2) ∧ (zs.length : Int) = 6 + zs.getD 5 0 then
    (⟨0, zs.getD 0 0, 0, 0, zs.getD 1 0, zs.getD 2 0, zs.getD 3 0 * 256 + zs.getD 4 0, textC zs⟩, faultI (zs.getD 1 0) (zs.getD 2 0) (zs.getD 3 0 * 256 + zs.getD 4 0) (textC zs) == 0)
  else (⟨0, 0, 0, 0, 0, 0, 0, ⟨#[]⟩⟩, false)

theorem unp_read (zs : List Int) : unp zs = if (readC zs).2 = true then (readC zs).1 else errC := by
  unfold unp
  by_cases h0 : zs = []
  · subst h0; simp [readC]
  rw [if_neg h0]
  by_cases h1 : zs.getD 0 0 = 1
  · rw [if_pos h1]
    by_cases h3 : zs.length = 3
    · have e : readC zs = (⟨0, 1, zs.getD 1 0, zs.getD 2 0, 0, 0, 0, ⟨#[]⟩⟩, stubB (zs.getD 1 0) (zs.getD 2 0)) := if_pos ⟨h3, h1⟩
      rw [e]
      by_cases hs : stubB (zs.getD 1 0) (zs.getD 2 0) = true
      · exact (if_pos ⟨h3, hs⟩).trans (if_pos hs).symm
      · exact (if_neg (fun h => hs h.2)).trans (if_neg hs).symm
    · have e : readC zs = (⟨0, 0, 0, 0, 0, 0, 0, ⟨#[]⟩⟩, false) := (if_neg (fun h => h3 h.1)).trans (if_neg (fun h => by omega))
      rw [e]
      exact (if_neg (fun h => h3 h.1)).trans (if_neg (by simp)).symm
  · rw [if_neg h1]
    by_cases h2 : zs.getD 0 0 = 0 ∨ zs.getD 0 0 = 2
    · rw [if_pos h2]
      by_cases h6 : 6 ≤ zs.length ∧ (zs.length : Int) = 6 + zs.getD 5 0
      · have e : readC zs = (⟨0, zs.getD 0 0, 0, 0, zs.getD 1 0, zs.getD 2 0, zs.getD 3 0 * 256 + zs.getD 4 0, textC zs⟩, faultI (zs.getD 1 0) (zs.getD 2 0) (zs.getD 3 0 * 256 + zs.getD 4 0) (textC zs) == 0) :=
          (if_neg (fun h => h1 h.2)).trans (if_pos ⟨h6.1, h2, h6.2⟩)
        rw [e]
        by_cases hq : faultI (zs.getD 1 0) (zs.getD 2 0) (zs.getD 3 0 * 256 + zs.getD 4 0) (textC zs) = 0
        · exact (if_pos ⟨h6.1, h6.2, hq⟩).trans (if_pos (beq_iff_eq.2 hq)).symm
        · exact (if_neg (fun h => hq h.2.2)).trans (if_neg (fun h => hq (beq_iff_eq.1 h))).symm
      · have e : readC zs = (⟨0, 0, 0, 0, 0, 0, 0, ⟨#[]⟩⟩, false) := (if_neg (fun h => h1 h.2)).trans (if_neg (fun h => h6 ⟨h.1, h.2.2⟩))
        rw [e]
        exact (if_neg (fun h => h6 ⟨h.1, h.2.1⟩)).trans (if_neg (by simp)).symm
    · have e : readC zs = (⟨0, 0, 0, 0, 0, 0, 0, ⟨#[]⟩⟩, false) := (if_neg (fun h => h1 h.2)).trans (if_neg (fun h => h2 h.2.1))
      rw [e, if_neg h2]
      exact (if_neg (by simp)).symm

theorem l1Read_any (a : Option Addr) (zs : List Int) (n c : Nat) (w : World) (hn : zs.length = n) (hnc : n ≤ c) (ha : Reads w a zs) (hz : ∀ z ∈ zs, 0 ≤ z ∧ z ≤ 255) :
    Calls Try.prog 157 #[.slice a n c] w fun e w' => e = .returned (.tuple #[celV (readC zs).1, .bool (readC zs).2]) ∧ Below w.heap.size w w' := by
  by_cases h6 : n < 6
  · by_cases h3 : n = 3
    · subst h3
      rcases ha with ha | ⟨b, off, rfl, hc⟩
      · rw [ha] at hn; simp at hn
      have hc0 := hc 0 (by omega)
      rw [Nat.add_zero] at hc0
      by_cases h1 : zs.getD 0 0 = 1
      · rw [readC, if_pos ⟨hn, h1⟩]
        rw [h1] at hc0
        exact l1Read_stub b off c _ _ w hc0 (hc 1 (by omega)) (hc 2 (by omega)) (getD_range hz 1).1 (getD_range hz 1).2 (getD_range hz 2).1 (getD_range hz 2).2
      · rw [readC, if_neg (fun h => h1 h.2), if_neg (fun h => by omega)]
        exact l1Read_three b off c _ w hc0 h1
    · rw [readC, if_neg (fun h => by omega), if_neg (fun h => by omega)]
      exact l1Read_short a n c w h6 h3
  · rcases ha with ha | ⟨b, off, rfl, hc⟩
    · rw [ha] at hn; simp at hn; omega
    have hc0 := hc 0 (by omega)
    rw [Nat.add_zero] at hc0
    have r0 := getD_range hz 0
    have r1 := getD_range hz 1
    have r2 := getD_range hz 2
    have r3 := getD_range hz 3
    have r4 := getD_range hz 4
    have r5 := getD_range hz 5
    rw [readC, if_neg (fun h => by omega)]
    by_cases h2 : zs.getD 0 0 = 0 ∨ zs.getD 0 0 = 2
    · by_cases hl : (n : Int) = 6 + zs.getD 5 0
      · rw [if_pos ⟨by omega, h2, by omega⟩]
        have hsz : (textC zs).size ≤ maxLen := by rw [textC_size]; unfold maxLen; omega
        have hx : (zs.getD 0 0 == 1) = false ∧ zs.getD 0 0 ≤ 2 ∧ 0 ≤ zs.getD 0 0 := ⟨beq_eq_false_iff_ne.2 (by omega), by omega, by omega⟩
        by_cases h7 : 6 < c
        · refine (l1Read_row b off n c _ _ _ _ _ _ (textC zs) w hc0 (hc 1 (by omega)) (hc 2 (by omega)) (hc 3 (by omega)) (hc 4 (by omega)) (hc 5 (by omega)) hx r1 r2 r3 r4 r5 hl h7 hsz ?_).mono ?_
          · intro w' hw
            exact run_convert_bytes_arg w' 106 5 Try.underlying106 Try.underlying5 b (off + 6) (n - 6) (c - 6) (zs.drop 6) (by rw [List.length_drop]; omega) (fun i hi => by rw [show off + 6 + i = off + (6 + i) from by omega, hw (6 + i) (by omega), hc (6 + i) (by omega), getD_drop6]) 9 Try.underlying9
          · rintro e w' ⟨hb, rfl⟩
            exact ⟨rfl, hb⟩
        · have e6 : n = 6 := by omega
          have ec : c = 6 := by omega
          subst e6 ec
          have h5 := hc 5 (by omega)
          have z5 : zs.getD 5 0 = 0 := by omega
          rw [z5] at h5
          have htx : textC zs = ByteArray.empty := by rw [textC, List.drop_eq_nil_of_le (by omega)]; rfl
          refine (l1Read_six b off _ _ _ _ _ (textC zs) w hc0 (hc 1 (by omega)) (hc 2 (by omega)) (hc 3 (by omega)) (hc 4 (by omega)) h5 hx r1 r2 r3 r4 hsz ?_).mono ?_
          · intro w' _
            have h := run_convert_bytes_arg w' 106 5 Try.underlying106 Try.underlying5 b off 0 0 [] rfl (fun i hi => absurd hi (Nat.not_lt_zero _)) 9 Try.underlying9
            rw [htx]
            exact h
          · rintro e w' ⟨hb, rfl⟩
            exact ⟨rfl, hb⟩
      · rw [if_neg (fun h => hl (by omega))]
        exact l1Read_size b off n c _ _ w hc0 (hc 5 (by omega)) (by omega) h2 r5.1 r5.2 hl
    · rw [if_neg (fun h => h2 h.2.1)]
      exact l1Read_flag b off n c _ w hc0 (by omega) (by omega)

set_option maxHeartbeats 400000 in
theorem eqRow_same (t k v : Int) (s : ByteArray) (w : World) :
    Calls Try.prog 55 #[.agg #[.int .i64 t, .int .i64 k, .int .i64 v, .string s], .agg #[.int .i64 t, .int .i64 k, .int .i64 v, .string s]] w fun e w' => e = .returned (.bool true) ∧ Below w.heap.size w w' := by
  go_enter Try.func55, Try.ntmps55
  go_wp2_with fail
  go_ret
  exact ⟨rfl, by go_grown⟩

end Go.Proofs.Yteebbaleejbodaa

/-
  Rows in slices: what they read as; szRowS, toRowS, eqRowS.
-/
namespace Go.Proofs.Yteebbaleejbodaa
open Go.RowKit
set_option linter.unusedVariables false

/-- A row. -/
structure Rw where
  t : Int
  k : Int
  v : Int
  s : ByteArray

def rwE (r : Rw) : List Value := [.int .i64 r.t, .int .i64 r.k, .int .i64 r.v, .string r.s]
def rwA (r : Rw) : Value := .agg #[.int .i64 r.t, .int .i64 r.k, .int .i64 r.v, .string r.s]
theorem rwE_len (r : Rw) : (rwE r).length = 4 := rfl

/-- Four cells of a row, at a place. -/
structure RowC (w : World) (b o : Nat) (r : Rw) : Prop where
  c0 : w.cell? ⟨b, o, none⟩ = some (.int .i64 r.t)
  c1 : w.cell? ⟨b, o + 1, none⟩ = some (.int .i64 r.k)
  c2 : w.cell? ⟨b, o + 2, none⟩ = some (.int .i64 r.v)
  c3 : w.cell? ⟨b, o + 3, none⟩ = some (.string r.s)

theorem RowC.below {w w' : World} {b o : Nat} {r : Rw} (h : RowC w b o r) {B : Nat} (hb : Below B w w') (hB : b < B) : RowC w' b o r :=
  ⟨(hb.cell (p := ⟨b, _, none⟩) hB).trans h.c0, (hb.cell (p := ⟨b, _, none⟩) hB).trans h.c1, (hb.cell (p := ⟨b, _, none⟩) hB).trans h.c2, (hb.cell (p := ⟨b, _, none⟩) hB).trans h.c3⟩

theorem RowC.of {w : World} {b o : Nat} {r : Rw} (h : ∀ j u, (rwE r)[j]? = some u → w.cell? ⟨b, o + j, none⟩ = some u) : RowC w b o r := ⟨h 0 _ rfl, h 1 _ rfl, h 2 _ rfl, h 3 _ rfl⟩

theorem Rs.row {w : World} {a : Option Addr} {rs : List Rw} (h : Rs rwE 4 w a rs) {i : Nat} {r : Rw} (hr : rs[i]? = some r) : ∃ b off, a = some ⟨b, off, none⟩ ∧ RowC w b (off + i * 4) r := by
  rcases h with h | ⟨b, off, ha, hc⟩
  · rw [h] at hr; simp at hr
  · exact ⟨b, off, ha, RowC.of (hc i r hr)⟩

theorem Rs.rowAt {w : World} {b off : Nat} {rs : List Rw} (h : Rs rwE 4 w (some ⟨b, off, none⟩) rs) {i : Nat} {r : Rw} (hr : rs[i]? = some r) : RowC w b (off + i * 4) r := by
  obtain ⟨b', off', ha, hc⟩ := h.row hr
  simp only [Option.some.injEq, Addr.mk.injEq, and_true] at ha
  obtain ⟨rfl, rfl⟩ := ha
  exact hc

theorem eqKeep {w W V : World} {S : World → Prop} (h : ∀ V, Below w.heap.size w V → S V) (h1 : Below w.heap.size w W) (hb : Below W.heap.size W V) : Below w.heap.size w V ∧ S V :=
  ⟨h1.trans (hb.mono h1.size), h V (h1.trans (hb.mono h1.size))⟩

theorem eqKeepD {w V : World} {S : World → Prop} (h : ∀ V, Below w.heap.size w V → S V) (hb : Below w.drew.heap.size w.drew V) : Below w.heap.size w V ∧ S V :=
  eqKeep h (Below.refl _ _).drew hb

theorem at_lt {rs : List Rw} {i : Nat} (h : i < rs.length) : ∃ r, rs[i]? = some r := ⟨rs[i], List.getElem?_eq_getElem h⟩

set_option maxHeartbeats 400000 in
theorem szRowS_any (a : Option Addr) (rs : List Rw) (n c : Nat) (w : World) (k : Int) (hn : rs.length = n) (hm : n ≤ 9223372036854775807) (hs : ∀ r ∈ rs, r.s.size ≤ maxLen) (hr : Rs rwE 4 w a rs) (hk0 : 0 ≤ k) (hk : k ≤ 1048576) :
    Calls Try.prog 8 #[.slice a n c, .int .i64 k] w fun e w' => (∃ r : Int, e = .returned (.int .i64 r) ∧ r ≤ 1048576 ∧ (0 ≤ r → n ≤ 1048576 ∧ ∀ x ∈ rs, x.s.size ≤ 1048576)) ∧ Below w.heap.size w w' := by
  by_cases h : k < n
  · have d : (k - (n : Int) < 0) := by omega
    go_enter Try.func8, Try.ntmps8
    go_wp2_with fail
    go_ret
    exact ⟨⟨-1, rfl, by omega, by omega⟩, Below.refl _ _⟩
  · have d : ¬ (k - (n : Int) < 0) := by omega
    by_cases h0 : n = 0
    · subst h0
      obtain rfl : rs = [] := List.length_eq_zero_iff.1 hn
      go_enter Try.func8, Try.ntmps8
      go_wp2_with fail
      go_rounds 1
      go_ret
      exact ⟨⟨_, rfl, by omega, fun _ => ⟨by omega, fun x hx => by simp at hx⟩⟩, Below.refl _ _⟩
    have HR := hr
    rcases hr with hr | ⟨b, off, rfl, hc⟩
    · exfalso; rw [hr] at hn; simp at hn; omega
    clear hc
    have hb0 : b < w.heap.size := by
      obtain ⟨r, hr⟩ := at_lt (rs := rs) (i := 0) (by omega)
      exact World.block_lt_of_cell? w _ (HR.rowAt hr).c0
    have HR : Hid (Rs rwE 4 w (some ⟨b, off, none⟩) rs) := HR
    have HS : Hid (∀ r ∈ rs, r.s.size ≤ maxLen) := hs
    have HN : Hid (rs.length = n) := hn
    clear hn hs
    go_enter Try.func8, Try.ntmps8
    go_wp2_with fail
    go_loopw [5, 1] (fun i l wr => ∃ (j : Nat) (m : Int), j ≤ n ∧ i = .int .i64 j ∧ l = .int .i64 m ∧ 0 ≤ m ∧ m ≤ 1048576 ∧ Hid (∀ x ∈ rs.take j, x.s.size ≤ 1048576) ∧ Below w.heap.size w wr) (fun i _ _ => n - (intOf i).toNat)
    case atStart => exact ⟨0, _, Nat.zero_le _, rfl, rfl, by omega, by omega, fun x hx => by simp at hx, Below.refl _ _⟩
    case round =>
      obtain ⟨j, m, hj, rfl, rfl, hm0, hm1, hall, g⟩ := hrel
      by_cases hlt : j < n
      · obtain ⟨r, hr⟩ := at_lt (rs := rs) (i := j) (by rw [HN.out]; exact hlt)
        obtain ⟨e0, e1, e2, e3⟩ := (HR.out.rowAt hr).below g hb0
        have hrm : r ∈ rs := List.mem_of_getElem? hr
        have hjn : (j : Int) < (n : Int) := by omega
        have hsl := HS.out r hrm
        have HT : Hid (rs.take (j + 1) = rs.take j ++ [r]) := by
          obtain ⟨hl, e⟩ := List.getElem?_eq_some_iff.1 hr
          show _ = _
          rw [← e]; exact List.take_succ_eq_append_getElem hl
        clear hr hrm
        obtain ⟨rt, rk, rv, rs'⟩ := r
        dsimp only at e0 e1 e2 e3 hsl
        by_cases hfit : (rs'.size : Int) ≤ m
        · go_wp2_with fail
          refine (szRow_fits rt rk rv rs' m _ hfit (by omega)).mono ?_
          rintro e w' ⟨rfl, g'⟩
          have g : Below w.heap.size w w' := g.trans (g'.mono g.size)
          clear g' e0 e1 e2 e3
          have dr : ¬ (m - (rs'.size : Int) < 0) := by omega
          have H2 : Hid (∀ x ∈ rs.take (j + 1), x.s.size ≤ 1048576) := by
            intro x hx
            rw [HT.out] at hx
            rcases List.mem_append.1 hx with hx | hx
            · exact hall.out x hx
            · simp at hx; subst hx; simp only; omega
          obtain ⟨q, hq⟩ : ∃ q : Int, q = m - (rs'.size : Int) := ⟨_, rfl⟩
          have hq0 : 0 ≤ q := by omega
          have hq1 : q ≤ 1048576 := by omega
          rw [← hq] at dr ⊢
          clear hq HT hall
          go_wp2_with fail
          go_roundw
          case rel => exact ⟨j + 1, q, by omega, by go_num, rfl, hq0, hq1, H2, g⟩
          case measure => simp [intOf]; omega
        · go_wp2_with fail
          refine (szRow_over rt rk rv rs' m _ hsl hm0 (by omega) (by omega)).mono ?_
          rintro e w' ⟨rfl, g'⟩
          have g : Below w.heap.size w w' := g.trans (g'.mono g.size)
          clear g' e0 e1 e2 e3
          go_wp2_with fail
          go_ret
          exact ⟨⟨-1, rfl, by omega, by omega⟩, g⟩
      · have e : j = n := by omega
        subst e
        go_wp2_with fail
        go_ret
        refine ⟨⟨_, rfl, by omega, fun _ => ⟨by omega, fun x hx => ?_⟩⟩, g⟩
        exact hall.out x (by rw [List.take_of_length_le (by rw [HN.out]; exact Nat.le_refl _)]; exact hx)

end Go.Proofs.Yteebbaleejbodaa

/-
  Rows of one's own memory: toRowS, eqRowS.
-/
namespace Go.Proofs.Yteebbaleejbodaa
open Go.RowKit
set_option linter.unusedVariables false

/-- Four cells written. -/
def put4 (w : World) (b o : Nat) (r : Rw) : World := (((w.setCell ⟨b, o, none⟩ (.int .i64 r.t)).setCell ⟨b, o + 1, none⟩ (.int .i64 r.k)).setCell ⟨b, o + 2, none⟩ (.int .i64 r.v)).setCell ⟨b, o + 3, none⟩ (.string r.s)

theorem cell_off {w : World} {b o p : Nat} {v : Value} (h : o ≠ p) : (w.setCell ⟨b, p, none⟩ v).cell? ⟨b, o, none⟩ = w.cell? ⟨b, o, none⟩ :=
  World.cell?_setCell_other _ _ _ _ (fun e => h (by have := congrArg Addr.off e; simpa using this.symm))

theorem put4_same {w : World} {b o : Nat} {r : Rw} {v0 v1 v2 v3 : Value} (h0 : w.cell? ⟨b, o, none⟩ = some v0) (h1 : w.cell? ⟨b, o + 1, none⟩ = some v1) (h2 : w.cell? ⟨b, o + 2, none⟩ = some v2) (h3 : w.cell? ⟨b, o + 3, none⟩ = some v3) : RowC (put4 w b o r) b o r := by
  unfold put4
  refine ⟨?_, ?_, ?_, ?_⟩
  · rw [cell_off (by omega), cell_off (by omega), cell_off (by omega)]
    exact World.cell?_setCell_same _ _ _ h0
  · rw [cell_off (by omega), cell_off (by omega)]
    exact World.cell?_setCell_same _ _ _ (by rw [cell_off (by omega)]; exact h1)
  · rw [cell_off (by omega)]
    exact World.cell?_setCell_same _ _ _ (by rw [cell_off (by omega), cell_off (by omega)]; exact h2)
  · exact World.cell?_setCell_same _ _ _ (by rw [cell_off (by omega), cell_off (by omega), cell_off (by omega)]; exact h3)

theorem put4_other {w : World} {b o p : Nat} {r : Rw} (h : p < o ∨ o + 4 ≤ p) : (put4 w b o r).cell? ⟨b, p, none⟩ = w.cell? ⟨b, p, none⟩ := by
  unfold put4
  rw [cell_off (by omega), cell_off (by omega), cell_off (by omega), cell_off (by omega)]

theorem put4_frozen {w : World} {b o : Nat} {r : Rw} (p : Addr) : (put4 w b o r).frozen? p = w.frozen? p := by
  unfold put4
  rw [World.frozen?_setCell, World.frozen?_setCell, World.frozen?_setCell, World.frozen?_setCell]

theorem RowC.cells {w : World} {b o : Nat} {r : Rw} (h : RowC w b o r) : ∀ j u, (rwE r)[j]? = some u → w.cell? ⟨b, o + j, none⟩ = some u := by
  intro j u hu
  match j, hu with
  | 0, hu => simp [rwE] at hu; subst hu; exact h.c0
  | 1, hu => simp [rwE] at hu; subst hu; exact h.c1
  | 2, hu => simp [rwE] at hu; subst hu; exact h.c2
  | 3, hu => simp [rwE] at hu; subst hu; exact h.c3
  | j + 4, hu => simp [rwE] at hu

theorem info35' : (Try.prog.info? 82).map (fun i => (i.zero, i.size, i.bytes)) = some (some (.agg #[.int .i64 0, .int .i64 0, .int .i64 0, .string ⟨#[]⟩]), 4, 40) := by kernel_rfl
theorem info35 : ∃ i, Try.prog.info? 82 = some i ∧ i.zero = some (.agg #[.int .i64 0, .int .i64 0, .int .i64 0, .string ⟨#[]⟩]) ∧ i.size = 4 ∧ i.bytes = 40 := by
  have h := info35'
  cases hi : Try.prog.info? 82 with
  | none => rw [hi] at h; simp at h
  | some i => rw [hi] at h; simp at h; exact ⟨i, rfl, h.1, h.2.1, h.2.2⟩

/-- Block g holds n rows, of which the first k are there. -/
structure PartR (w : World) (g n k : Nat) (rs : List Rw) : Prop where
  c : ∀ i r, i < k → rs[i]? = some r → RowC w g (i * 4) r
  e : ∀ o, o < n * 4 → ∃ v, w.cell? ⟨g, o, none⟩ = some v
  f : ∀ o, w.frozen? ⟨g, o, none⟩ = false

theorem PartR.below {w w' : World} {g n k : Nat} {rs : List Rw} (h : PartR w g n k rs) (hb : Below w.heap.size w w') (hg : g < w.heap.size) : PartR w' g n k rs :=
  ⟨fun i r hi hr => (h.c i r hi hr).below hb hg, fun o ho => by obtain ⟨v, hv⟩ := h.e o ho; exact ⟨v, (hb.cell (p := ⟨g, _, none⟩) hg).trans hv⟩, fun o => (hb.frozen (p := ⟨g, _, none⟩) hg).trans (h.f o)⟩

theorem PartR.step {w : World} {g n k : Nat} {rs : List Rw} {r : Rw} (h : PartR w g n k rs) (hk : k < n) (hr : rs[k]? = some r) : PartR (put4 w g (k * 4) r) g n (k + 1) rs := by
  obtain ⟨v0, e0⟩ := h.e (k * 4) (by omega)
  obtain ⟨v1, e1⟩ := h.e (k * 4 + 1) (by omega)
  obtain ⟨v2, e2⟩ := h.e (k * 4 + 2) (by omega)
  obtain ⟨v3, e3⟩ := h.e (k * 4 + 3) (by omega)
  have hs : RowC (put4 w g (k * 4) r) g (k * 4) r := put4_same e0 e1 e2 e3
  refine ⟨fun i r' hi hr' => ?_, fun o ho => ?_, fun o => by rw [put4_frozen]; exact h.f o⟩
  · by_cases e : i = k
    · subst e
      rw [hr] at hr'
      cases hr'
      exact hs
    · obtain ⟨c0, c1, c2, c3⟩ := h.c i r' (by omega) hr'
      exact ⟨by rw [put4_other (by omega)]; exact c0, by rw [put4_other (by omega)]; exact c1, by rw [put4_other (by omega)]; exact c2, by rw [put4_other (by omega)]; exact c3⟩
  · by_cases e : k * 4 ≤ o ∧ o < k * 4 + 4
    · have : o = k * 4 ∨ o = k * 4 + 1 ∨ o = k * 4 + 2 ∨ o = k * 4 + 3 := by omega
      rcases this with rfl | rfl | rfl | rfl
      · exact ⟨_, hs.c0⟩
      · exact ⟨_, hs.c1⟩
      · exact ⟨_, hs.c2⟩
      · exact ⟨_, hs.c3⟩
    · rw [put4_other (by omega)]; exact h.e o ho

theorem PartR.own {w : World} {g n : Nat} {rs : List Rw} (h : PartR w g n n rs) (hn : rs.length = n) {lo hi : Nat} (hl : lo ≤ g) (hh : g < hi) : SlIn rwE 4 lo hi w (some ⟨g, 0, none⟩) rs := by
  refine .inr ⟨g, 0, rfl, hl, hh, fun i r hr j u hu => ?_⟩
  have hi : i < n := by rw [← hn]; exact (List.getElem?_eq_some_iff.1 hr).1
  rw [Nat.zero_add]
  exact ⟨(h.c i r hi hr).cells j u hu, h.f _⟩

set_option maxHeartbeats 1000000 in
theorem toRowS_any (a : Option Addr) (rs : List Rw) (n c : Nat) (w : World) (hn : rs.length = n) (hm : n ≤ 1048576) (hr : Rs rwE 4 w a rs) :
    Calls Try.prog 10 #[.slice a n c] w fun e w' => e = .returned (.slice (some ⟨w.heap.size, 0, none⟩) n n) ∧ Below w.heap.size w w' ∧ SlIn rwE 4 w.heap.size w'.heap.size w' (some ⟨w.heap.size, 0, none⟩) rs := by
  obtain ⟨i0, hi, hz0, hz1, hz2⟩ := info35
  have HN : Hid (rs.length = n) := hn
  have HR : Hid (Rs rwE 4 w a rs) := hr
  clear hn hr
  go_enter Try.func10, Try.ntmps10
  go_wp2_with (at_make; refine wpList_make_full _ rfl _ _ 28 rfl w.heap.size 82 i0 (.agg #[.int .i64 0, .int .i64 0, .int .i64 0, .string ⟨#[]⟩]) 4 Try.underlying28 hi hz0 hz1 .i64 .i64 _ _ n rfl rfl rfl rfl ?c1 ?c2 (Nat.le_refl _) ?_)
  case c1 => rw [hz2]; omega
  case c2 => unfold maxLen; omega
  intro w1 hown hg
  have hB : Below w.heap.size w w1 := Below.grown (Below.refl _ _) hg (Nat.le_refl _) (fun k hk => by cases hk)
  have hlt1 : w.heap.size < w1.heap.size := (hown.lt w.heap.size (by simp [Value.ownBlock])).2
  have hP : PartR w1 w.heap.size n 0 rs := ⟨fun i r hi => absurd hi (Nat.not_lt_zero _), fun o ho => ⟨_, by rw [hown.cellAt o (by omega)]; exact List.getElem?_eq_getElem (by simpa [madeCells] using ho)⟩, fun o => hown.frozenAt _⟩
  clear hown hg hi hz0 hz1 hz2
  by_cases h0 : n = 0
  · subst h0
    go_wp2_with fail
    go_rounds 1
    go_ret
    exact ⟨rfl, hB, hP.own HN.out (Nat.le_refl _) hlt1⟩
  obtain ⟨b, off, ha⟩ : ∃ b off, a = some ⟨b, off, none⟩ := by
    obtain ⟨r, hr⟩ := at_lt (rs := rs) (i := 0) (by rw [HN.out]; omega)
    obtain ⟨b, off, ha, _⟩ := HR.out.row hr
    exact ⟨b, off, ha⟩
  subst ha
  have hb0 : b < w.heap.size := by
    obtain ⟨r, hr⟩ := at_lt (rs := rs) (i := 0) (by rw [HN.out]; omega)
    exact World.block_lt_of_cell? w _ (HR.out.rowAt hr).c0
  go_wp2_with fail
  go_loopw [4] (fun i wr => ∃ k : Nat, k ≤ n ∧ i = .int .i64 k ∧ Below w.heap.size w wr ∧ PartR wr w.heap.size n k rs ∧ w.heap.size < wr.heap.size) (fun i _ => n - (intOf i).toNat)
  case atStart => exact ⟨0, Nat.zero_le _, rfl, hB, hP, hlt1⟩
  case round =>
    obtain ⟨k, hk, rfl, g, hP, hlt⟩ := hrel
    clear hB hlt1
    by_cases hlt2 : k < n
    · obtain ⟨r, hr⟩ := at_lt (rs := rs) (i := k) (by rw [HN.out]; exact hlt2)
      obtain ⟨e0, e1, e2, e3⟩ := (HR.out.rowAt hr).below g hb0
      have HK : Hid (rs[k]? = some r) := hr
      clear hr
      have hkn : (k : Int) < (n : Int) := by omega
      obtain ⟨rt, rk, rv, rs'⟩ := r
      dsimp only at e0 e1 e2 e3
      go_wp2_with fail
      refine (toRow_any rt rk rv rs' _).mono ?_
      rintro e w' ⟨rfl, g'⟩
      have hP := hP.below g' hlt
      have g2 : Below w.heap.size w w' := g.trans (g'.mono g.size)
      have hlt' : w.heap.size < w'.heap.size := by have := g'.size; omega
      have hP' := hP.step hlt2 HK.out
      obtain ⟨v0, r0⟩ := hP.e (k * 4) (by omega)
      obtain ⟨v1, r1⟩ := hP.e (k * 4 + 1) (by omega)
      obtain ⟨v2, r2⟩ := hP.e (k * 4 + 2) (by omega)
      obtain ⟨v3, r3⟩ := hP.e (k * 4 + 3) (by omega)
      have f0 := hP.f (k * 4)
      have f1 := hP.f (k * 4 + 1)
      have f2 := hP.f (k * 4 + 2)
      have f3 := hP.f (k * 4 + 3)
      clear g g' hP e0 e1 e2 e3 HK
      go_wp2_with fail
      go_roundw
      case rel => exact ⟨k + 1, by omega, by go_num, by go_grown, hP', by simp; omega⟩
      case measure => simp [intOf]; omega
    · have e : k = n := by omega
      subst e
      go_wp2_with fail
      go_ret
      exact ⟨rfl, g, hP.own HN.out (Nat.le_refl _) hlt⟩

set_option maxHeartbeats 1000000 in
theorem eqRowS_same (a a' : Option Addr) (rs : List Rw) (n c d : Nat) (w : World) (hn : rs.length = n) (hm : n ≤ 9223372036854775807) (hx : Rs rwE 4 w a rs) (hy : Rs rwE 4 w a' rs) :
    Calls Try.prog 13 #[.slice a n c, .slice a' n d] w fun e w' => e = .returned (.bool true) ∧ Below w.heap.size w w' := by
  have HN : Hid (rs.length = n) := hn
  have HX : Hid (Rs rwE 4 w a rs) := hx
  have HY : Hid (Rs rwE 4 w a' rs) := hy
  clear hn hx hy
  go_enter Try.func13, Try.ntmps13
  go_wp2_with fail
  go_loopw [5] (fun i wr => ∃ k : Nat, k ≤ n ∧ i = .int .i64 k ∧ Below w.heap.size w wr) (fun i _ => n - (intOf i).toNat)
  case atStart => exact ⟨0, Nat.zero_le _, rfl, Below.refl _ _⟩
  case round =>
    obtain ⟨k, hk, rfl, g⟩ := hrel
    by_cases hlt : k < n
    · have hkn : (k : Int) < (n : Int) := by omega
      obtain ⟨r, hr⟩ := at_lt (rs := rs) (i := k) (by rw [HN.out]; exact hlt)
      obtain ⟨x, xo, rfl, X⟩ := HX.out.row hr
      obtain ⟨y, yo, rfl, Y⟩ := HY.out.row hr
      have X := X.below g (World.block_lt_of_cell? w _ X.c0)
      have Y := Y.below g (World.block_lt_of_cell? w _ Y.c0)
      clear hr
      obtain ⟨rt, rk, rv, rs'⟩ := r
      obtain ⟨x0, x1, x2, x3⟩ := X
      obtain ⟨y0, y1, y2, y3⟩ := Y
      dsimp only at x0 x1 x2 x3 y0 y1 y2 y3
      have HS : Hid (∀ V, Below wr.heap.size wr V → V.cell? ⟨x, xo + k * 4, none⟩ = some (.int .i64 rt) ∧ V.cell? ⟨x, xo + k * 4 + 1, none⟩ = some (.int .i64 rk) ∧ V.cell? ⟨x, xo + k * 4 + 2, none⟩ = some (.int .i64 rv) ∧ V.cell? ⟨x, xo + k * 4 + 3, none⟩ = some (.string rs') ∧ V.cell? ⟨y, yo + k * 4, none⟩ = some (.int .i64 rt) ∧ V.cell? ⟨y, yo + k * 4 + 1, none⟩ = some (.int .i64 rk) ∧ V.cell? ⟨y, yo + k * 4 + 2, none⟩ = some (.int .i64 rv) ∧ V.cell? ⟨y, yo + k * 4 + 3, none⟩ = some (.string rs')) := fun V hV =>
        ⟨(hV.cell (World.block_lt_of_cell? wr _ x0)).trans x0, (hV.cell (World.block_lt_of_cell? wr _ x1)).trans x1, (hV.cell (World.block_lt_of_cell? wr _ x2)).trans x2, (hV.cell (World.block_lt_of_cell? wr _ x3)).trans x3, (hV.cell (World.block_lt_of_cell? wr _ y0)).trans y0, (hV.cell (World.block_lt_of_cell? wr _ y1)).trans y1, (hV.cell (World.block_lt_of_cell? wr _ y2)).trans y2, (hV.cell (World.block_lt_of_cell? wr _ y3)).trans y3⟩
      go_wp2_with fail
      go_region_held (fun V => Below wr.heap.size wr V ∧ V.cell? ⟨x, xo + k * 4, none⟩ = some (.int .i64 rt) ∧ V.cell? ⟨x, xo + k * 4 + 1, none⟩ = some (.int .i64 rk) ∧ V.cell? ⟨x, xo + k * 4 + 2, none⟩ = some (.int .i64 rv) ∧ V.cell? ⟨x, xo + k * 4 + 3, none⟩ = some (.string rs') ∧ V.cell? ⟨y, yo + k * 4, none⟩ = some (.int .i64 rt) ∧ V.cell? ⟨y, yo + k * 4 + 1, none⟩ = some (.int .i64 rk) ∧ V.cell? ⟨y, yo + k * 4 + 2, none⟩ = some (.int .i64 rv) ∧ V.cell? ⟨y, yo + k * 4 + 3, none⟩ = some (.string rs')) (first | exact eqKeepD HS.out (by assumption) | exact eqKeep HS.out (Below.refl _ _) (by go_grown)) (first | (go_at_call 55; refine (eqRow_same rt rk rv rs' _).mono ?_; rintro e w' ⟨rfl, hb⟩))
      rename_i hV
      have g : Below w.heap.size w w' := g.trans (hV.1.mono g.size)
      clear hV x0 x1 x2 x3 y0 y1 y2 y3 HS hb
      go_wp2_with fail
      go_roundw
      case rel => exact ⟨k + 1, by omega, by go_num, g⟩
      case measure => simp [intOf]; omega
    · go_wp2_with fail
      go_ret
      exact ⟨rfl, g⟩

end Go.Proofs.Yteebbaleejbodaa
