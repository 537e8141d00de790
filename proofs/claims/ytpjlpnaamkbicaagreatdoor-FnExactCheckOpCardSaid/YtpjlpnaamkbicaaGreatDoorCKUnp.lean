/-
  The contracts of unpackStub, unpackRow: what they tell of all bytes.
-/
import Derived.Test.YtpjlpnaamkbicaaGreatDoorCKRowC
import Derived.Deep.Cut
import Derived.Test.YtpjlpnaamkbicaaGreatDoorCKRowA
import Derived.Deep.MidRow
import Derived.Laws.CopyOwn

namespace Go.Proofs.YtpjlpnaamkbicaaGreatDoor
open Go.RowKit

/-- Block b holds a zero CellResult that may be written. -/
structure CelOwn (w : World) (b : Nat) : Prop where
  c0 : w.cell? ⟨b, 0, none⟩ = some (.int .i64 0)
  c1 : w.cell? ⟨b, 1, none⟩ = some (.int .i64 0)
  c2 : w.cell? ⟨b, 2, none⟩ = some (.int .i64 0)
  c3 : w.cell? ⟨b, 3, none⟩ = some (.int .i64 0)
  c4 : w.cell? ⟨b, 4, none⟩ = some (.int .i64 0)
  c5 : w.cell? ⟨b, 5, none⟩ = some (.int .i64 0)
  c6 : w.cell? ⟨b, 6, none⟩ = some (.int .i64 0)
  c7 : w.cell? ⟨b, 7, none⟩ = some (.string ⟨#[]⟩)
  f0 : w.frozen? ⟨b, 0, none⟩ = false
  f1 : w.frozen? ⟨b, 1, none⟩ = false
  f2 : w.frozen? ⟨b, 2, none⟩ = false
  f3 : w.frozen? ⟨b, 3, none⟩ = false
  f4 : w.frozen? ⟨b, 4, none⟩ = false
  f5 : w.frozen? ⟨b, 5, none⟩ = false
  f6 : w.frozen? ⟨b, 6, none⟩ = false
  f7 : w.frozen? ⟨b, 7, none⟩ = false

theorem CelOwn.below {B b : Nat} {w w' : World} (h : CelOwn w b) (hb : Below B w w') (hlt : b < B) : CelOwn w' b :=
  ⟨(hb.cell (p := ⟨b, 0, none⟩) hlt).trans h.c0, (hb.cell (p := ⟨b, 1, none⟩) hlt).trans h.c1, (hb.cell (p := ⟨b, 2, none⟩) hlt).trans h.c2, (hb.cell (p := ⟨b, 3, none⟩) hlt).trans h.c3, (hb.cell (p := ⟨b, 4, none⟩) hlt).trans h.c4, (hb.cell (p := ⟨b, 5, none⟩) hlt).trans h.c5, (hb.cell (p := ⟨b, 6, none⟩) hlt).trans h.c6, (hb.cell (p := ⟨b, 7, none⟩) hlt).trans h.c7, (hb.frozen (p := ⟨b, 0, none⟩) hlt).trans h.f0, (hb.frozen (p := ⟨b, 1, none⟩) hlt).trans h.f1, (hb.frozen (p := ⟨b, 2, none⟩) hlt).trans h.f2, (hb.frozen (p := ⟨b, 3, none⟩) hlt).trans h.f3, (hb.frozen (p := ⟨b, 4, none⟩) hlt).trans h.f4, (hb.frozen (p := ⟨b, 5, none⟩) hlt).trans h.f5, (hb.frozen (p := ⟨b, 6, none⟩) hlt).trans h.f6, (hb.frozen (p := ⟨b, 7, none⟩) hlt).trans h.f7⟩

theorem or256_nat (x y : Nat) (hx : x < 256) (hy : y < 256) : bits BinOp.or IntKind.i64 ((x * 256 : Nat) : Int) (y : Int) = ((x * 256 + y : Nat) : Int) := by
  have h1 : x * 256 ||| y = x * 256 + y := by
    have h := Nat.shiftLeft_add_eq_or_of_lt (i := 8) (b := y) (by omega) x
    rw [Nat.shiftLeft_eq] at h
    simpa using h.symm
  show IntKind.i64.wrap ((BitVec.ofInt 64 ((x * 256 : Nat) : Int) ||| BitVec.ofInt 64 (y : Int)).toNat : Int) = _
  have e1 : (BitVec.ofInt 64 ((x * 256 : Nat) : Int)).toNat = x * 256 := by simp [BitVec.toNat_ofInt]; omega
  have e2 : (BitVec.ofInt 64 (y : Int)).toNat = y := by simp; omega
  rw [BitVec.toNat_or, e1, e2, h1, IntKind.wrap_i64]
  omega
theorem or256 (x y : Int) (x0 : 0 ≤ x) (x1 : x ≤ 255) (y0 : 0 ≤ y) (y1 : y ≤ 255) : bits BinOp.or IntKind.i64 (x * 256) y = x * 256 + y := by
  obtain ⟨m, rfl⟩ := Int.eq_ofNat_of_zero_le x0
  obtain ⟨n, rfl⟩ := Int.eq_ofNat_of_zero_le y0
  have h := or256_nat m n (by omega) (by omega)
  simpa using h

end Go.Proofs.YtpjlpnaamkbicaaGreatDoor

/-
  The contract of the model's l1Read: what it tells of all bytes.
-/
namespace Go.Proofs.YtpjlpnaamkbicaaGreatDoor
open Go.RowKit

end Go.Proofs.YtpjlpnaamkbicaaGreatDoor

/-
  The contract of UnpackCell: what it tells of all bytes, as a function of the bytes.
-/
namespace Go.Proofs.YtpjlpnaamkbicaaGreatDoor
open Go.RowKit

/-- What UnpackCell tells. -/
structure Cel where
  q : Int
  f : Int
  p : Int
  l : Int
  t : Int
  k : Int
  v : Int
  s : ByteArray

def celV (r : Cel) : Value := .agg #[.int .i64 r.q, .int .i64 r.f, .int .i64 r.p, .int .i64 r.l, .int .i64 r.t, .int .i64 r.k, .int .i64 r.v, .string r.s]
def errC : Cel := ⟨5, 0, 0, 0, 0, 0, 0, ⟨#[]⟩⟩
def textC (zs : List Int) : ByteArray := strOfNums (zs.drop 6)
def stubC (zs : List Int) : Cel := if zs.length = 3 ∧ stubB (zs.getD 1 0) (zs.getD 2 0) = true then ⟨0, 1, zs.getD 1 0, zs.getD 2 0, 0, 0, 0, ⟨#[]⟩⟩ else errC
def rowC (zs : List Int) : Cel :=
  if 6 ≤ zs.length ∧ (zs.length : Int) = 6 + zs.getD 5 0 ∧ faultI (zs.getD 1 0) (zs.getD 2 0) (zs.getD 3 0 * 256 + zs.getD 4 0) (textC zs) = 0
  then ⟨0, zs.getD 0 0, 0, 0, zs.getD 1 0, zs.getD 2 0, zs.getD 3 0 * 256 + zs.getD 4 0, textC zs⟩ else errC
def unp (zs : List Int) : Cel := if zs = [] then errC else if zs.getD 0 0 = 1 then stubC zs else if zs.getD 0 0 = 0 ∨ zs.getD 0 0 = 2 then rowC zs else errC

theorem celV_form (r : Cel) : ∃ q f p l t k v s, r = Cel.mk q f p l t k v s := ⟨_, _, _, _, _, _, _, _, rfl⟩

theorem getD_range {zs : List Int} (hz : ∀ z ∈ zs, 0 ≤ z ∧ z ≤ 255) (i : Nat) : 0 ≤ zs.getD i 0 ∧ zs.getD i 0 ≤ 255 := by
  by_cases h : i < zs.length
  · have : zs.getD i 0 = zs[i] := by simp [List.getD, h]
    rw [this]; exact hz _ (List.getElem_mem h)
  · have : zs.getD i 0 = 0 := by simp [List.getD, List.getElem?_eq_none (Nat.le_of_not_lt h)]
    rw [this]; omega

theorem getD_drop6 (zs : List Int) (i : Nat) : (zs.drop 6).getD i 0 = zs.getD (6 + i) 0 := by simp [List.getD, List.getElem?_drop]

theorem textC_size (zs : List Int) : (textC zs).size = zs.length - 6 := by rw [textC, strOfNums_size, List.length_drop]

end Go.Proofs.YtpjlpnaamkbicaaGreatDoor

/-
  The contract of the model's UnpackCell, and what compares two answers of UnpackCell.
-/
namespace Go.Proofs.YtpjlpnaamkbicaaGreatDoor
open Go.RowKit

/-- What l1Read tells. -/
def readC (zs : List Int) : Cel × Bool :=
  if zs.length = 3 ∧ zs.getD 0 0 = 1 then (⟨0, 1, zs.getD 1 0, zs.getD 2 0, 0, 0, 0, ⟨#[]⟩⟩, stubB (zs.getD 1 0) (zs.getD 2 0))
  else if 6 ≤ zs.length ∧ (zs.getD 0 0 = 0 ∨ zs.getD 0 0 = 2) ∧ (zs.length : Int) = 6 + zs.getD 5 0 then
    (⟨0, zs.getD 0 0, 0, 0, zs.getD 1 0, zs.getD 2 0, zs.getD 3 0 * 256 + zs.getD 4 0, textC zs⟩, faultI (zs.getD 1 0) (zs.getD 2 0) (zs.getD 3 0 * 256 + zs.getD 4 0) (textC zs) == 0)
  else (⟨0, 0, 0, 0, 0, 0, 0, ⟨#[]⟩⟩, false)

theorem unp_read (zs : List Int) : unp zs = if (readC zs).2 = true then (readC zs).1 else errC := by
  unfold unp
  by_cases h0 : zs = []
  · subst h0; simp [readC]
  rw [if_neg h0]
  by_cases h1 : zs.getD 0 0 = 1
  · rw [if_pos h1]
    by_cases h3 : zs.length = 3
    · have e : readC zs = (⟨0, 1, zs.getD 1 0, zs.getD 2 0, 0, 0, 0, ⟨#[]⟩⟩, stubB (zs.getD 1 0) (zs.getD 2 0)) := if_pos ⟨h3, h1⟩
      rw [e]
      by_cases hs : stubB (zs.getD 1 0) (zs.getD 2 0) = true
      · exact (if_pos ⟨h3, hs⟩).trans (if_pos hs).symm
      · exact (if_neg (fun h => hs h.2)).trans (if_neg hs).symm
    · have e : readC zs = (⟨0, 0, 0, 0, 0, 0, 0, ⟨#[]⟩⟩, false) := (if_neg (fun h => h3 h.1)).trans (if_neg (fun h => by omega))
      rw [e]
      exact (if_neg (fun h => h3 h.1)).trans (if_neg (by simp)).symm
  · rw [if_neg h1]
    by_cases h2 : zs.getD 0 0 = 0 ∨ zs.getD 0 0 = 2
    · rw [if_pos h2]
      by_cases h6 : 6 ≤ zs.length ∧ (zs.length : Int) = 6 + zs.getD 5 0
      · have e : readC zs = (⟨0, zs.getD 0 0, 0, 0, zs.getD 1 0, zs.getD 2 0, zs.getD 3 0 * 256 + zs.getD 4 0, textC zs⟩, faultI (zs.getD 1 0) (zs.getD 2 0) (zs.getD 3 0 * 256 + zs.getD 4 0) (textC zs) == 0) :=
          (if_neg (fun h => h1 h.2)).trans (if_pos ⟨h6.1, h2, h6.2⟩)
        rw [e]
        by_cases hq : faultI (zs.getD 1 0) (zs.getD 2 0) (zs.getD 3 0 * 256 + zs.getD 4 0) (textC zs) = 0
        · exact (if_pos ⟨h6.1, h6.2, hq⟩).trans (if_pos (beq_iff_eq.2 hq)).symm
        · exact (if_neg (fun h => hq h.2.2)).trans (if_neg (fun h => hq (beq_iff_eq.1 h))).symm
      · have e : readC zs = (⟨0, 0, 0, 0, 0, 0, 0, ⟨#[]⟩⟩, false) := (if_neg (fun h => h1 h.2)).trans (if_neg (fun h => h6 ⟨h.1, h.2.2⟩))
        rw [e]
        exact (if_neg (fun h => h6 ⟨h.1, h.2.1⟩)).trans (if_neg (by simp)).symm
    · have e : readC zs = (⟨0, 0, 0, 0, 0, 0, 0, ⟨#[]⟩⟩, false) := (if_neg (fun h => h1 h.2)).trans (if_neg (fun h => h2 h.2.1))
      rw [e, if_neg h2]
      exact (if_neg (by simp)).symm

set_option maxHeartbeats 400000 in
theorem eqRow_same (t k v : Int) (s : ByteArray) (w : World) :
    Calls Tryz.prog 33 #[.agg #[.int .i64 t, .int .i64 k, .int .i64 v, .string s], .agg #[.int .i64 t, .int .i64 k, .int .i64 v, .string s]] w fun e w' => e = .returned (.bool true) ∧ Below w.heap.size w w' := by
  go_enter Tryz.func33, Tryz.ntmps33
  go_wp2_with fail
  go_ret
  exact ⟨rfl, by go_grown⟩

end Go.Proofs.YtpjlpnaamkbicaaGreatDoor

/-
  Rows in slices: what they read as; szRowS, toRowS, eqRowS.
-/
namespace Go.Proofs.YtpjlpnaamkbicaaGreatDoor
open Go.RowKit
set_option linter.unusedVariables false

/-- A row. -/
structure Rw where
  t : Int
  k : Int
  v : Int
  s : ByteArray

def rwE (r : Rw) : List Value := [.int .i64 r.t, .int .i64 r.k, .int .i64 r.v, .string r.s]
def rwA (r : Rw) : Value := .agg #[.int .i64 r.t, .int .i64 r.k, .int .i64 r.v, .string r.s]
theorem rwE_len (r : Rw) : (rwE r).length = 4 := rfl

/-- Four cells of a row, at a place. -/
structure RowC (w : World) (b o : Nat) (r : Rw) : Prop where
  c0 : w.cell? ⟨b, o, none⟩ = some (.int .i64 r.t)
  c1 : w.cell? ⟨b, o + 1, none⟩ = some (.int .i64 r.k)
  c2 : w.cell? ⟨b, o + 2, none⟩ = some (.int .i64 r.v)
  c3 : w.cell? ⟨b, o + 3, none⟩ = some (.string r.s)

theorem RowC.below {w w' : World} {b o : Nat} {r : Rw} (h : RowC w b o r) {B : Nat} (hb : Below B w w') (hB : b < B) : RowC w' b o r :=
  ⟨(hb.cell (p := ⟨b, _, none⟩) hB).trans h.c0, (hb.cell (p := ⟨b, _, none⟩) hB).trans h.c1, (hb.cell (p := ⟨b, _, none⟩) hB).trans h.c2, (hb.cell (p := ⟨b, _, none⟩) hB).trans h.c3⟩

theorem RowC.of {w : World} {b o : Nat} {r : Rw} (h : ∀ j u, (rwE r)[j]? = some u → w.cell? ⟨b, o + j, none⟩ = some u) : RowC w b o r := ⟨h 0 _ rfl, h 1 _ rfl, h 2 _ rfl, h 3 _ rfl⟩

theorem Rs.row {w : World} {a : Option Addr} {rs : List Rw} (h : Rs rwE 4 w a rs) {i : Nat} {r : Rw} (hr : rs[i]? = some r) : ∃ b off, a = some ⟨b, off, none⟩ ∧ RowC w b (off + i * 4) r := by
  rcases h with h | ⟨b, off, ha, hc⟩
  · rw [h] at hr; simp at hr
  · exact ⟨b, off, ha, RowC.of (hc i r hr)⟩

theorem Rs.rowAt {w : World} {b off : Nat} {rs : List Rw} (h : Rs rwE 4 w (some ⟨b, off, none⟩) rs) {i : Nat} {r : Rw} (hr : rs[i]? = some r) : RowC w b (off + i * 4) r := by
  obtain ⟨b', off', ha, hc⟩ := h.row hr
  simp only [Option.some.injEq, Addr.mk.injEq, and_true] at ha
  obtain ⟨rfl, rfl⟩ := ha
  exact hc

theorem eqKeep {w W V : World} {S : World → Prop} (h : ∀ V, Below w.heap.size w V → S V) (h1 : Below w.heap.size w W) (hb : Below W.heap.size W V) : Below w.heap.size w V ∧ S V :=
  ⟨h1.trans (hb.mono h1.size), h V (h1.trans (hb.mono h1.size))⟩

theorem eqKeepD {w V : World} {S : World → Prop} (h : ∀ V, Below w.heap.size w V → S V) (hb : Below w.drew.heap.size w.drew V) : Below w.heap.size w V ∧ S V :=
  eqKeep h (Below.refl _ _).drew hb

theorem at_lt {rs : List Rw} {i : Nat} (h : i < rs.length) : ∃ r, rs[i]? = some r := ⟨rs[i], List.getElem?_eq_getElem h⟩

set_option maxHeartbeats 400000 in
theorem szRowS_any (a : Option Addr) (rs : List Rw) (n c : Nat) (w : World) (k : Int) (hn : rs.length = n) (hm : n ≤ 9223372036854775807) (hs : ∀ r ∈ rs, r.s.size ≤ maxLen) (hr : Rs rwE 4 w a rs) (hk0 : 0 ≤ k) (hk : k ≤ 1048576) :
    Calls Tryz.prog 4 #[.slice a n c, .int .i64 k] w fun e w' => (∃ r : Int, e = .returned (.int .i64 r) ∧ r ≤ 1048576 ∧ (0 ≤ r → n ≤ 1048576 ∧ ∀ x ∈ rs, x.s.size ≤ 1048576)) ∧ Below w.heap.size w w' := by
  by_cases h : k < n
  · have d : (k - (n : Int) < 0) := by omega
    go_enter Tryz.func4, Tryz.ntmps4
    go_wp2_with fail
    go_ret
    exact ⟨⟨-1, rfl, by omega, by omega⟩, Below.refl _ _⟩
  · have d : ¬ (k - (n : Int) < 0) := by omega
    by_cases h0 : n = 0
    · subst h0
      obtain rfl : rs = [] := List.length_eq_zero_iff.1 hn
      go_enter Tryz.func4, Tryz.ntmps4
      go_wp2_with fail
      go_rounds 1
      go_ret
      exact ⟨⟨_, rfl, by omega, fun _ => ⟨by omega, fun x hx => by simp at hx⟩⟩, Below.refl _ _⟩
    have HR := hr
    rcases hr with hr | ⟨b, off, rfl, hc⟩
    · exfalso; rw [hr] at hn; simp at hn; omega
    clear hc
    have hb0 : b < w.heap.size := by
      obtain ⟨r, hr⟩ := at_lt (rs := rs) (i := 0) (by omega)
      exact World.block_lt_of_cell? w _ (HR.rowAt hr).c0
    have HR : Hid (Rs rwE 4 w (some ⟨b, off, none⟩) rs) := HR
    have HS : Hid (∀ r ∈ rs, r.s.size ≤ maxLen) := hs
    have HN : Hid (rs.length = n) := hn
    clear hn hs
    go_enter Tryz.func4, Tryz.ntmps4
    go_wp2_with fail
    go_loopw [5, 1] (fun i l wr => ∃ (j : Nat) (m : Int), j ≤ n ∧ i = .int .i64 j ∧ l = .int .i64 m ∧ 0 ≤ m ∧ m ≤ 1048576 ∧ Hid (∀ x ∈ rs.take j, x.s.size ≤ 1048576) ∧ Below w.heap.size w wr) (fun i _ _ => n - (intOf i).toNat)
    case atStart => exact ⟨0, _, Nat.zero_le _, rfl, rfl, by omega, by omega, fun x hx => by simp at hx, Below.refl _ _⟩
    case round =>
      obtain ⟨j, m, hj, rfl, rfl, hm0, hm1, hall, g⟩ := hrel
      by_cases hlt : j < n
      · obtain ⟨r, hr⟩ := at_lt (rs := rs) (i := j) (by rw [HN.out]; exact hlt)
        obtain ⟨e0, e1, e2, e3⟩ := (HR.out.rowAt hr).below g hb0
        have hrm : r ∈ rs := List.mem_of_getElem? hr
        have hjn : (j : Int) < (n : Int) := by omega
        have hsl := HS.out r hrm
        have HT : Hid (rs.take (j + 1) = rs.take j ++ [r]) := by
          obtain ⟨hl, e⟩ := List.getElem?_eq_some_iff.1 hr
          show _ = _
          rw [← e]; exact List.take_succ_eq_append_getElem hl
        clear hr hrm
        obtain ⟨rt, rk, rv, rs'⟩ := r
        dsimp only at e0 e1 e2 e3 hsl
        by_cases hfit : (rs'.size : Int) ≤ m
        · go_wp2_with fail
          refine (szRow_fits rt rk rv rs' m _ hfit (by omega)).mono ?_
          rintro e w' ⟨rfl, g'⟩
          have g : Below w.heap.size w w' := g.trans (g'.mono g.size)
          clear g' e0 e1 e2 e3
          have dr : ¬ (m - (rs'.size : Int) < 0) := by omega
          have H2 : Hid (∀ x ∈ rs.take (j + 1), x.s.size ≤ 1048576) := by
            intro x hx
            rw [HT.out] at hx
            rcases List.mem_append.1 hx with hx | hx
            · exact hall.out x hx
            · simp at hx; subst hx; simp only; omega
          obtain ⟨q, hq⟩ : ∃ q : Int, q = m - (rs'.size : Int) := ⟨_, rfl⟩
          have hq0 : 0 ≤ q := by omega
          have hq1 : q ≤ 1048576 := by omega
          rw [← hq] at dr ⊢
          clear hq HT hall
          go_wp2_with fail
          go_roundw
          case rel => exact ⟨j + 1, q, by omega, by go_num, rfl, hq0, hq1, H2, g⟩
          case measure => simp [intOf]; omega
        · go_wp2_with fail
          refine (szRow_over rt rk rv rs' m _ hsl hm0 (by omega) (by omega)).mono ?_
          rintro e w' ⟨rfl, g'⟩
          have g : Below w.heap.size w w' := g.trans (g'.mono g.size)
          clear g' e0 e1 e2 e3
          go_wp2_with fail
          go_ret
          exact ⟨⟨-1, rfl, by omega, by omega⟩, g⟩
      · have e : j = n := by omega
        subst e
        go_wp2_with fail
        go_ret
        refine ⟨⟨_, rfl, by omega, fun _ => ⟨by omega, fun x hx => ?_⟩⟩, g⟩
        exact hall.out x (by rw [List.take_of_length_le (by rw [HN.out]; exact Nat.le_refl _)]; exact hx)

end Go.Proofs.YtpjlpnaamkbicaaGreatDoor
