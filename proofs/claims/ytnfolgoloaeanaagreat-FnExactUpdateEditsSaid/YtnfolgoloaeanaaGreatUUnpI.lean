/-
  The contract of UnpackCell: what it tells of all bytes, as a function of the bytes.
-/
import Derived.Test.YtnfolgoloaeanaaGreatUUnp
import Derived.Deep.Cut
import Derived.Test.YtnfolgoloaeanaaGreatUBy
import Derived.Deep.MidRow
import Derived.Laws.CopyOwn

namespace Go.Proofs.YtnfolgoloaeanaaGreat
open Go.RowKit

/-- What UnpackCell tells. -/
structure Cel where
  q : Int
  f : Int
  p : Int
  l : Int
  t : Int
  k : Int
  v : Int
  s : ByteArray

def celV (r : Cel) : Value := .agg #[.int .i64 r.q, .int .i64 r.f, .int .i64 r.p, .int .i64 r.l, .int .i64 r.t, .int .i64 r.k, .int .i64 r.v, .string r.s]
def errC : Cel := ⟨5, 0, 0, 0, 0, 0, 0, ⟨#[]⟩⟩
def textC (zs : List Int) : ByteArray := strOfNums (zs.drop 6)
def stubC (zs : List Int) : Cel := if zs.length = 3 ∧ stubB (zs.getD 1 0) (zs.getD 2 0) = true then ⟨0, 1, zs.getD 1 0, zs.getD 2 0, 0, 0, 0, ⟨#[]⟩⟩ else errC
def rowC (zs : List Int) : Cel :=
  if 6 ≤ zs.length ∧ (zs.length : Int) = 6 + zs.getD 5 0 ∧ faultI (zs.getD 1 0) (zs.getD 2 0) (zs.getD 3 0 * 256 + zs.getD 4 0) (textC zs) = 0
  then ⟨0, zs.getD 0 0, 0, 0, zs.getD 1 0, zs.getD 2 0, zs.getD 3 0 * 256 + zs.getD 4 0, textC zs⟩ else errC
def unp (zs : List Int) : Cel := if zs = [] then errC else if zs.getD 0 0 = 1 then stubC zs else if zs.getD 0 0 = 0 ∨ zs.getD 0 0 = 2 then rowC zs else errC

theorem celV_form (r : Cel) : ∃ q f p l t k v s, r = Cel.mk q f p l t k v s := ⟨_, _, _, _, _, _, _, _, rfl⟩

theorem getD_range {zs : List Int} (hz : ∀ z ∈ zs, 0 ≤ z ∧ z ≤ 255) (i : Nat) : 0 ≤ zs.getD i 0 ∧ zs.getD i 0 ≤ 255 := by
  by_cases h : i < zs.length
  · have : zs.getD i 0 = zs[i] := by simp [List.getD, h]
    rw [this]; exact hz _ (List.getElem_mem h)
  · have : zs.getD i 0 = 0 := by simp [List.getD, List.getElem?_eq_none (Nat.le_of_not_lt h)]
    rw [this]; omega

theorem getD_drop6 (zs : List Int) (i : Nat) : (zs.drop 6).getD i 0 = zs.getD (6 + i) 0 := by simp [List.getD, List.getElem?_drop]

theorem textC_size (zs : List Int) : (textC zs).size = zs.length - 6 := by rw [textC, strOfNums_size, List.length_drop]

theorem unpackStub_any (a : Option Addr) (zs : List Int) (n c : Nat) (w : World) (hn : zs.length = n) (ha : Reads w a zs) (hz : ∀ z ∈ zs, 0 ≤ z ∧ z ≤ 255) :
    Calls Tryz.prog 178 #[.slice a n c] w fun e w' => e = .returned (celV (stubC zs)) ∧ Below w.heap.size w w' := by
  by_cases h3 : n = 3
  · subst h3
    rcases ha with ha | ⟨b, off, rfl, hc⟩
    · rw [ha] at hn; simp at hn
    have r1 := getD_range hz 1
    have r2 := getD_range hz 2
    by_cases hy : zs.getD 1 0 < 12
    · by_cases hw : zs.getD 2 0 < 16
      · have e : stubC zs = ⟨0, 1, zs.getD 1 0, zs.getD 2 0, 0, 0, 0, ⟨#[]⟩⟩ := by rw [stubC, if_pos ⟨hn, by simp [stubB, inW]; simp at r1 r2 hy hw; omega⟩]
        rw [e]
        exact unpackStub_ok b off c _ _ w (hc 1 (by omega)) (hc 2 (by omega)) r1.1 hy r2.1 hw
      · have e : stubC zs = errC := by rw [stubC, if_neg (fun h => by have := h.2; simp [stubB, inW] at this; simp at hw; omega)]
        rw [e]
        exact unpackStub_slot b off c _ _ w (hc 1 (by omega)) (hc 2 (by omega)) hy (by omega)
    · have e : stubC zs = errC := by rw [stubC, if_neg (fun h => by have := h.2; simp [stubB, inW] at this; simp at hy; omega)]
      rw [e]
      exact unpackStub_page b off c _ w (hc 1 (by omega)) (by omega)
  · have e : stubC zs = errC := by rw [stubC, if_neg (fun h => by omega)]
    rw [e]
    exact unpackStub_len a n c w h3

theorem unpackRow_any (a : Option Addr) (zs : List Int) (n c : Nat) (w : World) (hn : zs.length = n) (hnc : n ≤ c) (ha : Reads w a zs) (hz : ∀ z ∈ zs, 0 ≤ z ∧ z ≤ 255) :
    Calls Tryz.prog 179 #[.slice a n c] w fun e w' => e = .returned (celV (rowC zs)) ∧ Below w.heap.size w w' := by
  by_cases h6 : n < 6
  · have e : rowC zs = errC := by rw [rowC, if_neg (fun h => by omega)]
    rw [e]
    exact unpackRow_len a n c w h6
  · rcases ha with ha | ⟨b, off, rfl, hc⟩
    · rw [ha] at hn; simp at hn; omega
    have r0 := getD_range hz 0
    have r1 := getD_range hz 1
    have r2 := getD_range hz 2
    have r3 := getD_range hz 3
    have r4 := getD_range hz 4
    have r5 := getD_range hz 5
    have h0 := hc 0 (by omega)
    rw [Nat.add_zero] at h0
    by_cases hl : (n : Int) = 6 + zs.getD 5 0
    · have hsz : (textC zs).size ≤ maxLen := by rw [textC_size]; unfold maxLen; omega
      have key : (if faultI (zs.getD 1 0) (zs.getD 2 0) (zs.getD 3 0 * 256 + zs.getD 4 0) (textC zs) = 0 then .agg #[.int .i64 0, .int .i64 (zs.getD 0 0), .int .i64 0, .int .i64 0, .int .i64 (zs.getD 1 0), .int .i64 (zs.getD 2 0), .int .i64 (zs.getD 3 0 * 256 + zs.getD 4 0), .string (textC zs)] else .agg #[.int .i64 5, .int .i64 0, .int .i64 0, .int .i64 0, .int .i64 0, .int .i64 0, .int .i64 0, .string ⟨#[]⟩]) = celV (rowC zs) := by
        rw [rowC]
        by_cases hq : faultI (zs.getD 1 0) (zs.getD 2 0) (zs.getD 3 0 * 256 + zs.getD 4 0) (textC zs) = 0
        · rw [if_pos hq, if_pos ⟨by omega, by omega, hq⟩]; rfl
        · rw [if_neg hq, if_neg (fun h => hq h.2.2)]; rfl
      by_cases h7 : 6 < c
      · refine (unpackRow_row b off n c _ _ _ _ _ _ (textC zs) w h0 (hc 1 (by omega)) (hc 2 (by omega)) (hc 3 (by omega)) (hc 4 (by omega)) (hc 5 (by omega)) r0 r1 r2 r3 r4 r5 hl h7 hsz ?_).mono ?_
        · intro w' hw
          exact run_convert_bytes_arg w' 22 5 Tryz.underlying22 Tryz.underlying5 b (off + 6) (n - 6) (c - 6) (zs.drop 6) (by rw [List.length_drop]; omega) (fun i hi => by rw [show off + 6 + i = off + (6 + i) from by omega, hw (6 + i) (by omega), hc (6 + i) (by omega), getD_drop6]) 9 Tryz.underlying9
        · rintro e w' ⟨hb, rfl⟩
          exact ⟨by rw [key], hb⟩
      · have e6 : n = 6 := by omega
        have ec : c = 6 := by omega
        subst e6 ec
        have h5 := hc 5 (by omega)
        have z5 : zs.getD 5 0 = 0 := by omega
        rw [z5] at h5
        have htx : textC zs = ByteArray.empty := by rw [textC, List.drop_eq_nil_of_le (by omega)]; rfl
        refine (unpackRow_six b off _ _ _ _ _ (textC zs) w h0 (hc 1 (by omega)) (hc 2 (by omega)) (hc 3 (by omega)) (hc 4 (by omega)) h5 r0 r1 r2 r3 r4 hsz ?_).mono ?_
        · intro w' _
          have h := run_convert_bytes_arg w' 22 5 Tryz.underlying22 Tryz.underlying5 b off 0 0 [] rfl (fun i hi => absurd hi (Nat.not_lt_zero _)) 9 Tryz.underlying9
          rw [htx]
          exact h
        · rintro e w' ⟨hb, rfl⟩
          exact ⟨by rw [key], hb⟩
    · have e : rowC zs = errC := by rw [rowC, if_neg (fun h => hl (by omega))]
      rw [e]
      exact unpackRow_size b off n c _ w (hc 5 (by omega)) r5.1 r5.2 (by omega) hl

set_option maxHeartbeats 400000 in
theorem implUnpackCell_none (a : Option Addr) (c : Nat) (w : World) :
    Calls Tryz.prog 129 #[.slice a 0 c] w fun e w' => e = .returned (.agg #[.int .i64 5, .int .i64 0, .int .i64 0, .int .i64 0, .int .i64 0, .int .i64 0, .int .i64 0, .string ⟨#[]⟩]) ∧ Below w.heap.size w w' := by
  go_enter Tryz.func129, Tryz.ntmps129
  go_wp2_with fail
  go_returns
  exact ⟨rfl, by go_grown⟩

set_option maxHeartbeats 400000 in
theorem implUnpackCell_stub (b off : Nat) (zs : List Int) (n c : Nat) (w : World) (hn : zs.length = n) (ha : Reads w (some ⟨b, off, none⟩) zs) (hz : ∀ z ∈ zs, 0 ≤ z ∧ z ≤ 255) (h0 : w.cell? ⟨b, off, none⟩ = some (.int .u8 1)) (hpos : (0 : Int) < (n : Int)) :
    Calls Tryz.prog 129 #[.slice (some ⟨b, off, none⟩) n c] w fun e w' => e = .returned (celV (stubC zs)) ∧ Below w.heap.size w w' := by
  have hlt : b < w.heap.size := World.block_lt_of_cell? w _ h0
  have d0 : ((n : Int) == 0) = false := by simp; omega
  obtain ⟨q, f, p, l, t, k, v, s, hr⟩ := celV_form (stubC zs)
  have HR : Hid (stubC zs = Cel.mk q f p l t k v s) := hr
  clear hr
  go_enter Tryz.func129, Tryz.ntmps129
  go_wp2_with fail
  refine (unpackStub_any _ zs n c _ hn (ha.below (B := w.heap.size) (by go_grown) (Nat.le_refl _)) hz).mono ?_
  rintro e w1 ⟨rfl, hb⟩
  rw [HR.out]
  simp only [celV]
  obtain ⟨o0, o1, o2, o3, o4, o5, o6, o7, g0, g1, g2, g3, g4, g5, g6, g7⟩ : CelOwn w1 w.heap.size := CelOwn.below ⟨by simp [go_sem], by simp [go_sem], by simp [go_sem], by simp [go_sem], by simp [go_sem], by simp [go_sem], by simp [go_sem], by simp [go_sem], by simp [go_sem], by simp [go_sem], by simp [go_sem], by simp [go_sem], by simp [go_sem], by simp [go_sem], by simp [go_sem], by simp [go_sem]⟩ hb (by simp)
  have g1 : Below w.heap.size w w1 := Below.trans (by go_grown) (hb.mono (by simp))
  clear hb
  go_wp2_with fail
  refine bodyPost_ret (v := .agg #[.int .i64 q, .int .i64 f, .int .i64 p, .int .i64 l, .int .i64 t, .int .i64 k, .int .i64 v, .string s]) (by simp [results, Tryz.results129, go_sem, o0, o1, o2, o3, o4, o5, o6, o7]) rfl ?_
  exact ⟨by rw [HR.out]; rfl, by go_grown⟩

set_option maxHeartbeats 400000 in
theorem implUnpackCell_row (b off : Nat) (zs : List Int) (n c : Nat) (x : Int) (w : World) (hn : zs.length = n) (hnc : n ≤ c) (ha : Reads w (some ⟨b, off, none⟩) zs) (hz : ∀ z ∈ zs, 0 ≤ z ∧ z ≤ 255) (h0 : w.cell? ⟨b, off, none⟩ = some (.int .u8 x)) (hx : x = 0 ∨ x = 2) (hpos : (0 : Int) < (n : Int)) :
    Calls Tryz.prog 129 #[.slice (some ⟨b, off, none⟩) n c] w fun e w' => e = .returned (celV (rowC zs)) ∧ Below w.heap.size w w' := by
  have hlt : b < w.heap.size := World.block_lt_of_cell? w _ h0
  have d0 : ((n : Int) == 0) = false := by simp; omega
  obtain ⟨q, f, p, l, t, k, v, s, hr⟩ := celV_form (rowC zs)
  have HR : Hid (rowC zs = Cel.mk q f p l t k v s) := hr
  clear hr
  rcases hx with rfl | rfl
  all_goals
    go_enter Tryz.func129, Tryz.ntmps129
    go_wp2_with fail
    refine (unpackRow_any _ zs n c _ hn hnc (ha.below (B := w.heap.size) (by go_grown) (Nat.le_refl _)) hz).mono ?_
    rintro e w1 ⟨rfl, hb⟩
    rw [HR.out]
    simp only [celV]
    obtain ⟨o0, o1, o2, o3, o4, o5, o6, o7, g0, g1, g2, g3, g4, g5, g6, g7⟩ : CelOwn w1 w.heap.size := CelOwn.below ⟨by simp [go_sem], by simp [go_sem], by simp [go_sem], by simp [go_sem], by simp [go_sem], by simp [go_sem], by simp [go_sem], by simp [go_sem], by simp [go_sem], by simp [go_sem], by simp [go_sem], by simp [go_sem], by simp [go_sem], by simp [go_sem], by simp [go_sem], by simp [go_sem]⟩ hb (by simp)
    have g1 : Below w.heap.size w w1 := Below.trans (by go_grown) (hb.mono (by simp))
    clear hb
    go_wp2_with fail
    refine bodyPost_ret (v := .agg #[.int .i64 q, .int .i64 f, .int .i64 p, .int .i64 l, .int .i64 t, .int .i64 k, .int .i64 v, .string s]) (by simp [results, Tryz.results129, go_sem, o0, o1, o2, o3, o4, o5, o6, o7]) rfl ?_
    exact ⟨by rw [HR.out]; rfl, by go_grown⟩

set_option maxHeartbeats 400000 in
theorem implUnpackCell_flag (b off : Nat) (n c : Nat) (x : Int) (w : World) (h0 : w.cell? ⟨b, off, none⟩ = some (.int .u8 x)) (x0 : x ≠ 0) (x1 : x ≠ 1) (x2 : x ≠ 2) (hpos : (0 : Int) < (n : Int)) :
    Calls Tryz.prog 129 #[.slice (some ⟨b, off, none⟩) n c] w fun e w' => e = .returned (.agg #[.int .i64 5, .int .i64 0, .int .i64 0, .int .i64 0, .int .i64 0, .int .i64 0, .int .i64 0, .string ⟨#[]⟩]) ∧ Below w.heap.size w w' := by
  have hlt : b < w.heap.size := World.block_lt_of_cell? w _ h0
  have d : ((n : Int) == 0) = false := by simp; omega
  have d0 : (x == 0) = false := by simpa using x0
  have d1 : (x == 1) = false := by simpa using x1
  have d2 : (x == 2) = false := by simpa using x2
  clear x0 x1 x2
  go_enter Tryz.func129, Tryz.ntmps129
  go_wp2_with fail
  go_returns
  exact ⟨rfl, by go_grown⟩

theorem implUnpackCell_any (a : Option Addr) (zs : List Int) (n c : Nat) (w : World) (hn : zs.length = n) (hnc : n ≤ c) (ha : Reads w a zs) (hz : ∀ z ∈ zs, 0 ≤ z ∧ z ≤ 255) :
    Calls Tryz.prog 129 #[.slice a n c] w fun e w' => e = .returned (celV (unp zs)) ∧ Below w.heap.size w w' := by
  have ha' := ha
  rcases ha with ha | ⟨b, off, rfl, hc⟩
  · subst ha
    simp at hn
    subst hn
    exact implUnpackCell_none a c w
  · by_cases h0 : zs = []
    · subst h0
      simp at hn
      subst hn
      exact implUnpackCell_none _ c w
    · have hpos : 0 < n := by have := List.length_pos_iff.2 h0; omega
      have hc0 := hc 0 (by omega)
      rw [Nat.add_zero] at hc0
      by_cases h1 : zs.getD 0 0 = 1
      · rw [unp, if_neg h0, if_pos h1]
        rw [h1] at hc0
        exact implUnpackCell_stub b off zs n c w hn ha' hz hc0 (by omega)
      · by_cases h2 : zs.getD 0 0 = 0 ∨ zs.getD 0 0 = 2
        · rw [unp, if_neg h0, if_neg h1, if_pos h2]
          exact implUnpackCell_row b off zs n c _ w hn hnc ha' hz hc0 h2 (by omega)
        · rw [unp, if_neg h0, if_neg h1, if_neg h2]
          exact implUnpackCell_flag b off n c _ w hc0 (fun h => h2 (.inl h)) h1 (fun h => h2 (.inr h)) (by omega)


/-- What l1Read tells. -/
def readC (zs : List Int) : Cel × Bool :=
  if zs.length = 3 ∧ zs.getD 0 0 = 1 then (⟨0, 1, zs.getD 1 0, zs.getD 2 0, 0, 0, 0, ⟨#[]⟩⟩, stubB (zs.getD 1 0) (zs.getD 2 0))
  else if 6 ≤ zs.length ∧ (zs.getD 0 0 = 0 ∨ zs.getD 0 0 = 2) ∧ (zs.length : Int) = 6 + zs.getD 5 0 then
    (⟨0, zs.getD 0 0, 0, 0, zs.getD 1 0, zs.getD 2 0, zs.getD 3 0 * 256 + zs.getD 4 0, textC zs⟩, faultI (zs.getD 1 0) (zs.getD 2 0) (zs.getD 3 0 * 256 + zs.getD 4 0) (textC zs) == 0)
  else (⟨0, 0, 0, 0, 0, 0, 0, ⟨#[]⟩⟩, false)

theorem unp_read (zs : List Int) : unp zs = if (readC zs).2 = true then (readC zs).1 else errC := by
  unfold unp
  by_cases h0 : zs = []
  · subst h0; simp [readC]
  rw [if_neg h0]
  by_cases h1 : zs.getD 0 0 = 1
  · rw [if_pos h1]
    by_cases h3 : zs.length = 3
    · have e : readC zs = (⟨0, 1, zs.getD 1 0, zs.getD 2 0, 0, 0, 0, ⟨#[]⟩⟩, stubB (zs.getD 1 0) (zs.getD 2 0)) := if_pos ⟨h3, h1⟩
      rw [e]
      by_cases hs : stubB (zs.getD 1 0) (zs.getD 2 0) = true
      · exact (if_pos ⟨h3, hs⟩).trans (if_pos hs).symm
      · exact (if_neg (fun h => hs h.2)).trans (if_neg hs).symm
    · have e : readC zs = (⟨0, 0, 0, 0, 0, 0, 0, ⟨#[]⟩⟩, false) := (if_neg (fun h => h3 h.1)).trans (if_neg (fun h => by omega))
      rw [e]
      exact (if_neg (fun h => h3 h.1)).trans (if_neg (by simp)).symm
  · rw [if_neg h1]
    by_cases h2 : zs.getD 0 0 = 0 ∨ zs.getD 0 0 = 2
    · rw [if_pos h2]
      by_cases h6 : 6 ≤ zs.length ∧ (zs.length : Int) = 6 + zs.getD 5 0
      · have e : readC zs = (⟨0, zs.getD 0 0, 0, 0, zs.getD 1 0, zs.getD 2 0, zs.getD 3 0 * 256 + zs.getD 4 0, textC zs⟩, faultI (zs.getD 1 0) (zs.getD 2 0) (zs.getD 3 0 * 256 + zs.getD 4 0) (textC zs) == 0) :=
          (if_neg (fun h => h1 h.2)).trans (if_pos ⟨h6.1, h2, h6.2⟩)
        rw [e]
        by_cases hq : faultI (zs.getD 1 0) (zs.getD 2 0) (zs.getD 3 0 * 256 + zs.getD 4 0) (textC zs) = 0
        · exact (if_pos ⟨h6.1, h6.2, hq⟩).trans (if_pos (beq_iff_eq.2 hq)).symm
        · exact (if_neg (fun h => hq h.2.2)).trans (if_neg (fun h => hq (beq_iff_eq.1 h))).symm
      · have e : readC zs = (⟨0, 0, 0, 0, 0, 0, 0, ⟨#[]⟩⟩, false) := (if_neg (fun h => h1 h.2)).trans (if_neg (fun h => h6 ⟨h.1, h.2.2⟩))
        rw [e]
        exact (if_neg (fun h => h6 ⟨h.1, h.2.1⟩)).trans (if_neg (by simp)).symm
    · have e : readC zs = (⟨0, 0, 0, 0, 0, 0, 0, ⟨#[]⟩⟩, false) := (if_neg (fun h => h1 h.2)).trans (if_neg (fun h => h2 h.2.1))
      rw [e, if_neg h2]
      exact (if_neg (by simp)).symm

theorem l1Read_any (a : Option Addr) (zs : List Int) (n c : Nat) (w : World) (hn : zs.length = n) (hnc : n ≤ c) (ha : Reads w a zs) (hz : ∀ z ∈ zs, 0 ≤ z ∧ z ≤ 255) :
    Calls Tryz.prog 160 #[.slice a n c] w fun e w' => e = .returned (.tuple #[celV (readC zs).1, .bool (readC zs).2]) ∧ Below w.heap.size w w' := by
  by_cases h6 : n < 6
  · by_cases h3 : n = 3
    · subst h3
      rcases ha with ha | ⟨b, off, rfl, hc⟩
      · rw [ha] at hn; simp at hn
      have hc0 := hc 0 (by omega)
      rw [Nat.add_zero] at hc0
      by_cases h1 : zs.getD 0 0 = 1
      · rw [readC, if_pos ⟨hn, h1⟩]
        rw [h1] at hc0
        exact l1Read_stub b off c _ _ w hc0 (hc 1 (by omega)) (hc 2 (by omega)) (getD_range hz 1).1 (getD_range hz 1).2 (getD_range hz 2).1 (getD_range hz 2).2
      · rw [readC, if_neg (fun h => h1 h.2), if_neg (fun h => by omega)]
        exact l1Read_three b off c _ w hc0 h1
    · rw [readC, if_neg (fun h => by omega), if_neg (fun h => by omega)]
      exact l1Read_short a n c w h6 h3
  · rcases ha with ha | ⟨b, off, rfl, hc⟩
    · rw [ha] at hn; simp at hn; omega
    have hc0 := hc 0 (by omega)
    rw [Nat.add_zero] at hc0
    have r0 := getD_range hz 0
    have r1 := getD_range hz 1
    have r2 := getD_range hz 2
    have r3 := getD_range hz 3
    have r4 := getD_range hz 4
    have r5 := getD_range hz 5
    rw [readC, if_neg (fun h => by omega)]
    by_cases h2 : zs.getD 0 0 = 0 ∨ zs.getD 0 0 = 2
    · by_cases hl : (n : Int) = 6 + zs.getD 5 0
      · rw [if_pos ⟨by omega, h2, by omega⟩]
        have hsz : (textC zs).size ≤ maxLen := by rw [textC_size]; unfold maxLen; omega
        have hx : (zs.getD 0 0 == 1) = false ∧ zs.getD 0 0 ≤ 2 ∧ 0 ≤ zs.getD 0 0 := ⟨beq_eq_false_iff_ne.2 (by omega), by omega, by omega⟩
        by_cases h7 : 6 < c
        · refine (l1Read_row b off n c _ _ _ _ _ _ (textC zs) w hc0 (hc 1 (by omega)) (hc 2 (by omega)) (hc 3 (by omega)) (hc 4 (by omega)) (hc 5 (by omega)) hx r1 r2 r3 r4 r5 hl h7 hsz ?_).mono ?_
          · intro w' hw
            exact run_convert_bytes_arg w' 22 5 Tryz.underlying22 Tryz.underlying5 b (off + 6) (n - 6) (c - 6) (zs.drop 6) (by rw [List.length_drop]; omega) (fun i hi => by rw [show off + 6 + i = off + (6 + i) from by omega, hw (6 + i) (by omega), hc (6 + i) (by omega), getD_drop6]) 9 Tryz.underlying9
          · rintro e w' ⟨hb, rfl⟩
            exact ⟨rfl, hb⟩
        · have e6 : n = 6 := by omega
          have ec : c = 6 := by omega
          subst e6 ec
          have h5 := hc 5 (by omega)
          have z5 : zs.getD 5 0 = 0 := by omega
          rw [z5] at h5
          have htx : textC zs = ByteArray.empty := by rw [textC, List.drop_eq_nil_of_le (by omega)]; rfl
          refine (l1Read_six b off _ _ _ _ _ (textC zs) w hc0 (hc 1 (by omega)) (hc 2 (by omega)) (hc 3 (by omega)) (hc 4 (by omega)) h5 hx r1 r2 r3 r4 hsz ?_).mono ?_
          · intro w' _
            have h := run_convert_bytes_arg w' 22 5 Tryz.underlying22 Tryz.underlying5 b off 0 0 [] rfl (fun i hi => absurd hi (Nat.not_lt_zero _)) 9 Tryz.underlying9
            rw [htx]
            exact h
          · rintro e w' ⟨hb, rfl⟩
            exact ⟨rfl, hb⟩
      · rw [if_neg (fun h => hl (by omega))]
        exact l1Read_size b off n c _ _ w hc0 (hc 5 (by omega)) (by omega) h2 r5.1 r5.2 hl
    · rw [if_neg (fun h => h2 h.2.1)]
      exact l1Read_flag b off n c _ w hc0 (by omega) (by omega)

set_option linter.unusedVariables false

/-- A row. -/
structure Rw where
  t : Int
  k : Int
  v : Int
  s : ByteArray

def rwE (r : Rw) : List Value := [.int .i64 r.t, .int .i64 r.k, .int .i64 r.v, .string r.s]
/-- Four cells of a row, at a place. -/
structure RowC (w : World) (b o : Nat) (r : Rw) : Prop where
  c0 : w.cell? ⟨b, o, none⟩ = some (.int .i64 r.t)
  c1 : w.cell? ⟨b, o + 1, none⟩ = some (.int .i64 r.k)
  c2 : w.cell? ⟨b, o + 2, none⟩ = some (.int .i64 r.v)
  c3 : w.cell? ⟨b, o + 3, none⟩ = some (.string r.s)

theorem RowC.below {w w' : World} {b o : Nat} {r : Rw} (h : RowC w b o r) {B : Nat} (hb : Below B w w') (hB : b < B) : RowC w' b o r :=
  ⟨(hb.cell (p := ⟨b, _, none⟩) hB).trans h.c0, (hb.cell (p := ⟨b, _, none⟩) hB).trans h.c1, (hb.cell (p := ⟨b, _, none⟩) hB).trans h.c2, (hb.cell (p := ⟨b, _, none⟩) hB).trans h.c3⟩

theorem RowC.of {w : World} {b o : Nat} {r : Rw} (h : ∀ j u, (rwE r)[j]? = some u → w.cell? ⟨b, o + j, none⟩ = some u) : RowC w b o r := ⟨h 0 _ rfl, h 1 _ rfl, h 2 _ rfl, h 3 _ rfl⟩

theorem Rs.row {w : World} {a : Option Addr} {rs : List Rw} (h : Rs rwE 4 w a rs) {i : Nat} {r : Rw} (hr : rs[i]? = some r) : ∃ b off, a = some ⟨b, off, none⟩ ∧ RowC w b (off + i * 4) r := by
  rcases h with h | ⟨b, off, ha, hc⟩
  · rw [h] at hr; simp at hr
  · exact ⟨b, off, ha, RowC.of (hc i r hr)⟩


/-- Four cells written. -/
def put4 (w : World) (b o : Nat) (r : Rw) : World := (((w.setCell ⟨b, o, none⟩ (.int .i64 r.t)).setCell ⟨b, o + 1, none⟩ (.int .i64 r.k)).setCell ⟨b, o + 2, none⟩ (.int .i64 r.v)).setCell ⟨b, o + 3, none⟩ (.string r.s)

theorem cell_off {w : World} {b o p : Nat} {v : Value} (h : o ≠ p) : (w.setCell ⟨b, p, none⟩ v).cell? ⟨b, o, none⟩ = w.cell? ⟨b, o, none⟩ :=
  World.cell?_setCell_other _ _ _ _ (fun e => h (by have := congrArg Addr.off e; simpa using this.symm))

theorem put4_same {w : World} {b o : Nat} {r : Rw} {v0 v1 v2 v3 : Value} (h0 : w.cell? ⟨b, o, none⟩ = some v0) (h1 : w.cell? ⟨b, o + 1, none⟩ = some v1) (h2 : w.cell? ⟨b, o + 2, none⟩ = some v2) (h3 : w.cell? ⟨b, o + 3, none⟩ = some v3) : RowC (put4 w b o r) b o r := by
  unfold put4
  refine ⟨?_, ?_, ?_, ?_⟩
  · rw [cell_off (by omega), cell_off (by omega), cell_off (by omega)]
    exact World.cell?_setCell_same _ _ _ h0
  · rw [cell_off (by omega), cell_off (by omega)]
    exact World.cell?_setCell_same _ _ _ (by rw [cell_off (by omega)]; exact h1)
  · rw [cell_off (by omega)]
    exact World.cell?_setCell_same _ _ _ (by rw [cell_off (by omega), cell_off (by omega)]; exact h2)
  · exact World.cell?_setCell_same _ _ _ (by rw [cell_off (by omega), cell_off (by omega), cell_off (by omega)]; exact h3)

theorem put4_other {w : World} {b o p : Nat} {r : Rw} (h : p < o ∨ o + 4 ≤ p) : (put4 w b o r).cell? ⟨b, p, none⟩ = w.cell? ⟨b, p, none⟩ := by
  unfold put4
  rw [cell_off (by omega), cell_off (by omega), cell_off (by omega), cell_off (by omega)]

theorem put4_frozen {w : World} {b o : Nat} {r : Rw} (p : Addr) : (put4 w b o r).frozen? p = w.frozen? p := by
  unfold put4
  rw [World.frozen?_setCell, World.frozen?_setCell, World.frozen?_setCell, World.frozen?_setCell]

theorem RowC.cells {w : World} {b o : Nat} {r : Rw} (h : RowC w b o r) : ∀ j u, (rwE r)[j]? = some u → w.cell? ⟨b, o + j, none⟩ = some u := by
  intro j u hu
  match j, hu with
  | 0, hu => simp [rwE] at hu; subst hu; exact h.c0
  | 1, hu => simp [rwE] at hu; subst hu; exact h.c1
  | 2, hu => simp [rwE] at hu; subst hu; exact h.c2
  | 3, hu => simp [rwE] at hu; subst hu; exact h.c3
  | j + 4, hu => simp [rwE] at hu

/-- Block g holds n rows, of which the first k are there. -/
structure PartR (w : World) (g n k : Nat) (rs : List Rw) : Prop where
  c : ∀ i r, i < k → rs[i]? = some r → RowC w g (i * 4) r
  e : ∀ o, o < n * 4 → ∃ v, w.cell? ⟨g, o, none⟩ = some v
  f : ∀ o, w.frozen? ⟨g, o, none⟩ = false

theorem PartR.below {w w' : World} {g n k : Nat} {rs : List Rw} (h : PartR w g n k rs) (hb : Below w.heap.size w w') (hg : g < w.heap.size) : PartR w' g n k rs :=
  ⟨fun i r hi hr => (h.c i r hi hr).below hb hg, fun o ho => by obtain ⟨v, hv⟩ := h.e o ho; exact ⟨v, (hb.cell (p := ⟨g, _, none⟩) hg).trans hv⟩, fun o => (hb.frozen (p := ⟨g, _, none⟩) hg).trans (h.f o)⟩

theorem PartR.step {w : World} {g n k : Nat} {rs : List Rw} {r : Rw} (h : PartR w g n k rs) (hk : k < n) (hr : rs[k]? = some r) : PartR (put4 w g (k * 4) r) g n (k + 1) rs := by
  obtain ⟨v0, e0⟩ := h.e (k * 4) (by omega)
  obtain ⟨v1, e1⟩ := h.e (k * 4 + 1) (by omega)
  obtain ⟨v2, e2⟩ := h.e (k * 4 + 2) (by omega)
  obtain ⟨v3, e3⟩ := h.e (k * 4 + 3) (by omega)
  have hs : RowC (put4 w g (k * 4) r) g (k * 4) r := put4_same e0 e1 e2 e3
  refine ⟨fun i r' hi hr' => ?_, fun o ho => ?_, fun o => by rw [put4_frozen]; exact h.f o⟩
  · by_cases e : i = k
    · subst e
      rw [hr] at hr'
      cases hr'
      exact hs
    · obtain ⟨c0, c1, c2, c3⟩ := h.c i r' (by omega) hr'
      exact ⟨by rw [put4_other (by omega)]; exact c0, by rw [put4_other (by omega)]; exact c1, by rw [put4_other (by omega)]; exact c2, by rw [put4_other (by omega)]; exact c3⟩
  · by_cases e : k * 4 ≤ o ∧ o < k * 4 + 4
    · have : o = k * 4 ∨ o = k * 4 + 1 ∨ o = k * 4 + 2 ∨ o = k * 4 + 3 := by omega
      rcases this with rfl | rfl | rfl | rfl
      · exact ⟨_, hs.c0⟩
      · exact ⟨_, hs.c1⟩
      · exact ⟨_, hs.c2⟩
      · exact ⟨_, hs.c3⟩
    · rw [put4_other (by omega)]; exact h.e o ho

theorem PartR.own {w : World} {g n : Nat} {rs : List Rw} (h : PartR w g n n rs) (hn : rs.length = n) {lo hi : Nat} (hl : lo ≤ g) (hh : g < hi) : SlIn rwE 4 lo hi w (some ⟨g, 0, none⟩) rs := by
  refine .inr ⟨g, 0, rfl, hl, hh, fun i r hr j u hu => ?_⟩
  have hi : i < n := by rw [← hn]; exact (List.getElem?_eq_some_iff.1 hr).1
  rw [Nat.zero_add]
  exact ⟨(h.c i r hi hr).cells j u hu, h.f _⟩

end Go.Proofs.YtnfolgoloaeanaaGreat

