/-
  The contracts of l1Source, l1Pick, l1Draw: a source, a number out of a list, a row: whatever is drawn is within its bounds.
-/
import Derived.Test.YtdgonddimenmdaaGreatQLpq
import Derived.Test.YtdgonddimenmdaaGreatQBy
import Derived.WalkKit
import Derived.WalkSpells
import Derived.WalkLawsBesides
import Derived.Handy
import Derived.BigQuiet

namespace Go.Proofs.YtdgonddimenmdaaGreat
open Go.RowKit

set_option maxHeartbeats 400000 in
theorem l1Source_any (a : Option Addr) (n c : Nat) (zs : List Int) (w : World) (rd : Reads w a zs) (hn : zs.length = n) (hm : n ≤ 1048576) (hz : ∀ z ∈ zs, 0 ≤ z ∧ z ≤ 255) :
    Calls Tryz.prog 16 #[.slice a n c] w fun e w' => e = .returned (.pointer (some ⟨w.heap.size, 0, none⟩)) ∧ Below w.heap.size w w' ∧ w.heap.size < w'.heap.size ∧ SrcAt w' w.heap.size a n c zs 0 := by
  have hfar : ∀ p, a = some p → zs ≠ [] → p.block < w.heap.size := by
    intro p hp hne
    rcases rd with hr | ⟨x, o, ha, hc⟩
    · exact absurd hr hne
    · rw [ha] at hp
      cases hp
      exact World.block_lt_of_cell? w _ (hc 0 (List.length_pos_iff.2 hne))
  have HF : Hid (∀ p, a = some p → zs ≠ [] → p.block < w.heap.size) := hfar
  clear hfar
  go_enter Tryz.func16, Tryz.ntmps16
  go_wp2
  go_ret
  exact ⟨rfl, by go_grown, by simp, ⟨by simp [go_sem], by simp [go_sem], by simp [go_sem], rd.below (B := w.heap.size) (by go_grown) (Nat.le_refl _), HF.out, hn, hm, hz, by omega, by omega⟩⟩

theorem SrcAt.below {w w' : World} {b : Nat} {a : Option Addr} {n c : Nat} {zs : List Int} {i : Int} (h : SrcAt w b a n c zs i) (hb : Below w.heap.size w w') : SrcAt w' b a n c zs i := by
  have hlt : b < w.heap.size := World.block_lt_of_cell? w _ h.c0
  exact ⟨(hb.cell (p := ⟨b, 0, none⟩) hlt).trans h.c0, (hb.cell (p := ⟨b, 1, none⟩) hlt).trans h.c1, (hb.frozen (p := ⟨b, 1, none⟩) hlt).trans h.f1, h.rd.below hb (Nat.le_refl _), h.far, h.hn, h.hm, h.hz, h.i0, h.i1⟩

theorem SrcAt.lt {w : World} {b : Nat} {a : Option Addr} {n c : Nat} {zs : List Int} {i : Int} (h : SrcAt w b a n c zs i) : b < w.heap.size := World.block_lt_of_cell? w _ h.c0

/-- Block g holds the numbers vs. -/
def IntsAt (w : World) (g : Nat) (vs : List Int) : Prop := ∀ k, k < vs.length → w.cell? ⟨g, k, none⟩ = some (.int .i64 (vs.getD k 0))

set_option maxHeartbeats 400000 in
theorem l1Pick_any (b g L : Nat) (a : Option Addr) (n c : Nat) (zs vs : List Int) (i : Int) (w : World) (h : SrcAt w b a n c zs i) (i9 : i ≤ 999) (hv : IntsAt w g vs) (hL : vs.length = L) (L0 : 1 ≤ L) (L1 : L ≤ 100) (hg : b < g) :
    Calls Tryz.prog 26 #[.pointer (some ⟨b, 0, none⟩), .slice (some ⟨g, 0, none⟩) L L] w fun e w' => (∃ k, k < vs.length ∧ e = .returned (.int .i64 (vs.getD k 0))) ∧ Turned b (b + 1) w w' ∧ SrcAt w' b a n c zs (i + 1) := by
  go_enter Tryz.func26, Tryz.ntmps26
  go_wp2_with fail
  refine (l1Next_any b a n c zs i L _ h i9 (by omega) (by omega)).mono ?_
  rintro e w1 ⟨⟨r, rfl, r0, r1⟩, ht, hS⟩
  have hk : r.toNat < vs.length := by omega
  have hc := ht.cell (hv r.toNat hk) (.inr (show b + 1 ≤ g by omega))
  obtain ⟨x, hx⟩ : ∃ x, x = vs.getD r.toNat 0 := ⟨_, rfl⟩
  rw [← hx] at hc
  have HX : Hid (x = vs.getD r.toNat 0) := hx
  have HH : Hid (Turned b (b + 1) w w1 ∧ SrcAt w1 b a n c zs (i + 1)) := ⟨ht, hS⟩
  clear hx ht hS h hv
  go_wp2_with fail
  go_ret
  exact ⟨⟨r.toNat, hk, by rw [← HX.out]; rfl⟩, HH.out⟩

/-- Block b holds a row that may be written. -/
structure RowOwn (w : World) (b : Nat) (t k v : Int) (s : ByteArray) : Prop where
  at4 : RowAt w b t k v s
  f0 : w.frozen? ⟨b, 0, none⟩ = false
  f1 : w.frozen? ⟨b, 1, none⟩ = false
  f2 : w.frozen? ⟨b, 2, none⟩ = false
  f3 : w.frozen? ⟨b, 3, none⟩ = false

theorem RowOwn.turned {lo hi b : Nat} {w w' : World} {t k v : Int} {s : ByteArray} (h : RowOwn w b t k v s) (ht : Turned lo hi w w') (hn : b < lo ∨ hi ≤ b) : RowOwn w' b t k v s :=
  ⟨⟨ht.cell h.at4.c0 hn, ht.cell h.at4.c1 hn, ht.cell h.at4.c2 hn, ht.cell h.at4.c3 hn⟩, (ht.frozen h.at4.c0 hn).trans h.f0, (ht.frozen h.at4.c1 hn).trans h.f1, (ht.frozen h.at4.c2 hn).trans h.f2, (ht.frozen h.at4.c3 hn).trans h.f3⟩

theorem Turned.setNew {lo hi : Nat} {w w' : World} (h : Turned lo hi w w') {p : Addr} (hp : w.heap.size ≤ p.block) (v : Value) : Turned lo hi w (w'.setCell p v) :=
  ⟨h.os, h.tape, h.output, by have := h.size; simp [World.setCell]; omega, fun k hk hn => (Below.heap_setCell _ _ _ _ (by omega)).trans (h.block k hk hn)⟩

theorem SrcAt.setFar {w : World} {b : Nat} {a : Option Addr} {n c : Nat} {zs : List Int} {i : Int} (h : SrcAt w b a n c zs i) {p : Addr} (hp : b < p.block) (v : Value) : SrcAt (w.setCell p v) b a n c zs i := by
  have hne : ∀ o, p ≠ ⟨b, o, none⟩ := fun o e => by have := congrArg Addr.block e; simp at this; omega
  refine ⟨by rw [World.cell?_setCell_other _ _ _ _ (hne 0)]; exact h.c0, by rw [World.cell?_setCell_other _ _ _ _ (hne 1)]; exact h.c1, by rw [World.frozen?_setCell]; exact h.f1, ?_, h.far, h.hn, h.hm, h.hz, h.i0, h.i1⟩
  rcases h.rd with hr | ⟨x, o, ha, hc⟩
  · exact .inl hr
  · refine .inr ⟨x, o, ha, fun k hk => ?_⟩
    have hx : x < b := h.far ⟨x, o, none⟩ ha (by intro e; rw [e] at hk; simp at hk)
    rw [World.cell?_setCell_other _ _ _ _ (fun e => by have := congrArg Addr.block e; simp at this; omega)]
    exact hc k hk

set_option maxHeartbeats 1000000 in
theorem l1Draw_any (b : Nat) (a : Option Addr) (n c : Nat) (zs : List Int) (i : Int) (w : World) (h : SrcAt w b a n c zs i) (i9 : i ≤ 900) :
    Calls Tryz.prog 36 #[.pointer (some ⟨b, 0, none⟩)] w fun e w' => (∃ t k v s, e = .returned (.agg #[.int .i64 t, .int .i64 k, .int .i64 v, .string s]) ∧ (0 ≤ t ∧ t ≤ 3) ∧ (1 ≤ k ∧ k ≤ 99) ∧ (0 ≤ v ∧ v ≤ 999) ∧ ByteArray.size s ≤ 8) ∧ Turned b (b + 1) w w' ∧ SrcAt w' b a n c zs (i + 5) := by
  have hb := h.lt
  go_enter Tryz.func36, Tryz.ntmps36
  go_wp2_with fail
  have hS : SrcAt (w.alloc (.cells #[.int .i64 0, .int .i64 0, .int .i64 0, .string ⟨#[]⟩] 32)) b a n c zs i := h.below (by go_grown)
  have hT : Turned b (b + 1) w (w.alloc (.cells #[.int .i64 0, .int .i64 0, .int .i64 0, .string ⟨#[]⟩] 32)) := Turned.ofBelow (by go_grown)
  have hO : RowOwn (w.alloc (.cells #[.int .i64 0, .int .i64 0, .int .i64 0, .string ⟨#[]⟩] 32)) w.heap.size 0 0 0 ⟨#[]⟩ := ⟨⟨by simp [go_sem], by simp [go_sem], by simp [go_sem], by simp [go_sem]⟩, by simp [go_sem], by simp [go_sem], by simp [go_sem], by simp [go_sem]⟩
  clear h
  refine (l1Next_any b a n c zs i 3 _ hS (by omega) (by omega) (by omega)).mono ?_
  rintro e w1 ⟨⟨r1, rfl, p1, q1⟩, ht, hS⟩
  have hT := hT.trans ht
  have hO := hO.turned ht (.inr (by omega))
  clear ht
  go_wp2_with fail
  refine (l1Next_any b a n c zs (i + 1) 6 _ hS (by omega) (by omega) (by omega)).mono ?_
  rintro e w2 ⟨⟨r2, rfl, p2, q2⟩, ht, hS⟩
  have hT := hT.trans ht
  have hO := hO.turned ht (.inr (by omega))
  clear ht
  go_wp2_with fail
  refine (l1Next_any b a n c zs (i + 1 + 1) 9 _ hS (by omega) (by omega) (by omega)).mono ?_
  rintro e w3 ⟨⟨r3, rfl, p3, q3⟩, ht, hS⟩
  have hT := hT.trans ht
  have hO := hO.turned ht (.inr (by omega))
  have hb3 : b < w3.heap.size := hS.lt
  clear ht
  go_wp2_with fail
  refine (l1Pick_any b w3.heap.size 3 a n c zs [r3, 300, 999] (i + 1 + 1 + 1) _ (hS.below (by go_grown)) (by omega) ?_ rfl (by omega) (by omega) hb3).mono ?_
  · intro k hk
    match k, hk with
    | 0, _ => simp [go_sem]
    | 1, _ => simp [go_sem]
    | 2, _ => simp [go_sem]
  rintro e w4 ⟨⟨j, hj, rfl⟩, ht, hS⟩
  have hv : 0 ≤ [r3, 300, 999].getD j 0 ∧ [r3, 300, 999].getD j 0 ≤ 999 := by
    match j, hj with
    | 0, _ => simp; omega
    | 1, _ => simp
    | 2, _ => simp
  generalize [r3, 300, 999].getD j 0 = v at hv
  have hT := (hT.trans (Turned.ofBelow (by go_grown))).trans ht
  have hO := (hO.turned (lo := b) (hi := b) (Turned.ofBelow (by go_grown)) (.inr (by omega))).turned ht (.inr (by omega))
  have hb4 : b < w4.heap.size := hS.lt
  clear ht hb3
  go_wp2_with fail
  refine (l1Next_any b a n c zs (i + 1 + 1 + 1 + 1) 4 _ (hS.below (by go_grown)) (by omega) (by omega) (by omega)).mono ?_
  rintro e w5 ⟨⟨r5, rfl, p5, q5⟩, ht, hS⟩
  obtain ⟨s, hs8, hcs⟩ : ∃ s : ByteArray, s.size ≤ 8 ∧ w5.cell? ⟨w4.heap.size, r5.toNat, none⟩ = some (.string s) := by
    have hk : r5.toNat < 4 := by omega
    generalize r5.toNat = k at hk
    match k, hk with
    | 0, _ => exact ⟨⟨#[]⟩, by decide, ht.cell (by simp [go_sem]) (.inr (show b + 1 ≤ w4.heap.size by omega))⟩
    | 1, _ => exact ⟨⟨#[97]⟩, by decide, ht.cell (by simp [go_sem]) (.inr (show b + 1 ≤ w4.heap.size by omega))⟩
    | 2, _ => exact ⟨⟨#[97, 98, 99]⟩, by decide, ht.cell (by simp [go_sem]) (.inr (show b + 1 ≤ w4.heap.size by omega))⟩
    | 3, _ => exact ⟨⟨#[97, 98, 99, 100, 101, 102, 103, 104]⟩, by decide, ht.cell (by simp [go_sem]) (.inr (show b + 1 ≤ w4.heap.size by omega))⟩
  have hT := (hT.trans (Turned.ofBelow (by go_grown))).trans ht
  have hO := (hO.turned (lo := b) (hi := b) (Turned.ofBelow (by go_grown)) (.inr (by omega))).turned ht (.inr (by omega))
  have HT : Hid (Turned b (b + 1) w w5) := hT
  have HS : Hid (SrcAt w5 b a n c zs (i + 1 + 1 + 1 + 1 + 1)) := hS
  clear ht hT hS hb4
  obtain ⟨⟨o0, o1, o2, o3⟩, g0, g1, g2, g3⟩ := hO
  go_wp2_with fail
  refine bodyPost_ret (v := .agg #[.int .i64 r1, .int .i64 (1 + r2), .int .i64 v, .string s]) (by simp [results, Tryz.results36, go_sem, o0, o1, o2, o3]) rfl ?_
  rw [show i + 5 = i + 1 + 1 + 1 + 1 + 1 from by omega]
  exact ⟨⟨_, _, _, _, rfl, by omega, by omega, hv, hs8⟩, (((HT.out.setNew (Nat.le_refl _) _).setNew (Nat.le_refl _) _).setNew (Nat.le_refl _) _).setNew (Nat.le_refl _) _, (((HS.out.setFar hb _).setFar hb _).setFar hb _).setFar hb _⟩

end Go.Proofs.YtdgonddimenmdaaGreat

/-
  The contracts of l1Chance and l1Some: some bytes, whatever is drawn.
-/
namespace Go.Proofs.YtdgonddimenmdaaGreat
set_option maxRecDepth 20000
open Go.RowKit
set_option linter.unusedVariables false

set_option maxHeartbeats 400000 in
theorem l1Chance_any (b : Nat) (a : Option Addr) (n c : Nat) (zs : List Int) (i m : Int) (w : World) (h : SrcAt w b a n c zs i) (i9 : i ≤ 999) (m0 : 1 ≤ m) (m1 : m ≤ 65536) :
    Calls Tryz.prog 59 #[.pointer (some ⟨b, 0, none⟩), .int .i64 m] w fun e w' => (∃ r, e = .returned (.bool r)) ∧ Turned b (b + 1) w w' ∧ SrcAt w' b a n c zs (i + 1) := by
  go_enter Tryz.func59, Tryz.ntmps59
  go_wp2_with fail
  refine (l1Next_any b a n c zs i m w h i9 m0 m1).mono ?_
  rintro e w1 ⟨⟨r, rfl, _, _⟩, ht, hS⟩
  go_wp2_with fail
  go_ret
  exact ⟨⟨_, rfl⟩, ht, hS⟩

/-- What is gathered: k bytes in a row of its own. -/
def Gath (base : Nat) (w : World) (v : Value) (k : Nat) : Prop := ∃ ys : List Int, ys.length = k ∧ (∀ z ∈ ys, 0 ≤ z ∧ z ≤ 255) ∧ w.ownsRow base 5 1 v k (ys.map (Value.int .u8))

theorem owns_turned {w w' : World} {lo hi base k : Nat} {v : Value} {xs : List Value} (h : w.ownsRow base 5 1 v k xs) (ht : Turned lo hi w w') (hb : hi ≤ base) : w'.ownsRow base 5 1 v k xs := by
  refine ⟨h.1, ?_⟩
  rcases h.2 with h0 | ⟨g, cap, cur, hv, hg0, hg, hr⟩
  · exact .inl h0
  · exact .inr ⟨g, cap, cur, hv, hg0, (ht.block g (Array.getElem?_eq_some_iff.1 hg).1 (by omega)).trans hg, hr⟩

theorem SrcAt.low {w w' : World} {B b : Nat} {a : Option Addr} {n c : Nat} {zs : List Int} {i : Int} (h : SrcAt w b a n c zs i) (hb : Below B w w') (hB : b < B) : SrcAt w' b a n c zs i := by
  refine ⟨(hb.cell (p := ⟨b, 0, none⟩) hB).trans h.c0, (hb.cell (p := ⟨b, 1, none⟩) hB).trans h.c1, (hb.frozen (p := ⟨b, 1, none⟩) hB).trans h.f1, ?_, h.far, h.hn, h.hm, h.hz, h.i0, h.i1⟩
  rcases h.rd with hr | ⟨x, o, ha, hc⟩
  · exact .inl hr
  · refine .inr ⟨x, o, ha, fun k hk => ?_⟩
    have hx : x < b := h.far ⟨x, o, none⟩ ha (by intro e; rw [e] at hk; simp at hk)
    exact (hb.cell (p := ⟨x, o + k, none⟩) (by simp only; omega)).trans (hc k hk)

set_option maxHeartbeats 2000000 in
theorem l1Some_any (b : Nat) (a : Option Addr) (n c : Nat) (zs : List Int) (i : Int) (m : Nat) (w : World) (h : SrcAt w b a n c zs i) (hi : i + m ≤ 999) (hm : m ≤ 64) :
    Calls Tryz.prog 87 #[.pointer (some ⟨b, 0, none⟩), .int .i64 m] w fun e w' => ∃ v, e = .returned v ∧ Gath w.heap.size w' v m ∧ Turned b (b + 1) w w' ∧ SrcAt w' b a n c zs (i + m) := by
  obtain ⟨i0, hi0, hz0, hz1, hz2⟩ := info5
  have hbl := h.lt
  go_enter Tryz.func87, Tryz.ntmps87
  go_wp2_with fail
  have g0 : Below w.heap.size w (w.alloc (.cells #[] 5)) := (Below.refl _ _).alloc (Nat.le_refl _) _
  have hG : Gath w.heap.size (w.alloc (.cells #[] 5)) (.slice (some ⟨w.heap.size, 0, none⟩) 0 0) 0 := ⟨[], rfl, fun z hz => by simp at hz, by simpa using World.ownsRow_lit (base := w.heap.size) (e := 5) (size := 1) w #[] 0 (Nat.le_refl _) (by unfold maxLen; omega) rfl⟩
  have hS0 := h.below g0
  have hT0 : Turned b (b + 1) w (w.alloc (.cells #[] 5)) := Turned.ofBelow g0
  go_loopw [1, 5] (fun ii vv wr => ∃ (k : Nat), k ≤ m ∧ ii = .int .i64 ((m - k : Nat)) ∧ Gath w.heap.size wr vv k ∧ Turned b (b + 1) w wr ∧ SrcAt wr b a n c zs (i + k)) (fun ii _ _ => (intOf ii).toNat)
  case atStart => exact ⟨0, Nat.zero_le _, rfl, hG, hT0, by simpa using hS0⟩
  case round =>
    obtain ⟨k, hk, rfl, ⟨ys, yl, yb, hown⟩, hT, hS⟩ := hrel
    clear hG hS0 hT0 g0
    by_cases hlt : k < m
    · have d1 : (0 : Int) < ((m - k : Nat) : Int) := by omega
      have hszr := hT.size
      go_wp2_with fail
      refine (l1Next_any b a n c zs (i + k) 256 wr hS (by omega) (by omega) (by omega)).mono ?_
      rintro e w1 ⟨⟨r, rfl, r0, r1⟩, ht, hS1⟩
      have hown1 := owns_turned hown ht (by omega)
      have hT1 := hT.trans ht
      have hsz1 := hT1.size
      clear hown ht hS hT
      go_wp2_with (at_builtin; refine wpList_append_own _ rfl _ _ 22 rfl w.heap.size 5 i0 (.int .u8 0) 1 1 Tryz.underlying22 hi0 hz0 hz1 hz2 rfl (by decide) _ _ _ rfl (hown1.alloc _) ⟨w1.heap.size, 0, none⟩ 1 1 [.int .u8 r] rfl rfl ?n1 ?n2 ?n3 ?n4 ?n5 ?_)
      case n1 =>
        intro j u hu
        match j, hu with
        | 0, hu => simp at hu; subst hu; simp [go_sem, Addr.add]
      case n2 =>
        intro u hu
        simp at hu
        subst hu
        rfl
      case n3 => unfold maxLen; omega
      case n4 => omega
      case n5 => simp; omega
      intro v' w6 hown' hgrow _
      have hBl : Below w.heap.size w1 w6 := Below.grown ((Below.refl w.heap.size w1).alloc hsz1 _) hgrow (by simp; omega) (fun j e => (hown1.lt j e).1)
      have hT6 : Turned b (b + 1) w w6 := ⟨hBl.os.trans hT1.os, hBl.tape.trans hT1.tape, hBl.output.trans hT1.output, Nat.le_trans hT1.size hBl.size, fun q hq hn => (hBl.block q hq).trans (hT1.block q hq hn)⟩
      have hS6 := hS1.low hBl hbl
      have hG6 : Gath w.heap.size w6 v' (k + 1) := ⟨ys ++ [r], by simp [yl], fun z hz => by
        rw [List.mem_append, List.mem_singleton] at hz
        rcases hz with hz | hz
        · exact yb z hz
        · omega, by simpa using hown'⟩
      clear hgrow hown' hown1 hS1 hT1 hBl
      go_wp2_with fail
      go_roundw
      case rel => exact ⟨k + 1, by omega, by go_num, hG6, hT6, by have := hS6; rwa [show i + (k : Int) + 1 = i + ((k + 1 : Nat) : Int) by omega] at this⟩
      case measure => simp [intOf]; omega
    · have d1 : ¬ (0 : Int) < ((m - k : Nat) : Int) := by omega
      obtain rfl : k = m := by omega
      go_wp2_with fail
      go_ret
      exact ⟨_, rfl, ⟨ys, yl, yb, hown⟩, hT, hS⟩

end Go.Proofs.YtdgonddimenmdaaGreat

/-
  Slices of structs, told cell by cell: read, owned, written beside.
-/
namespace Go.Proofs.YtdgonddimenmdaaGreat
open Go.RowKit
set_option linter.unusedVariables false

section
variable {α : Type} {enc : α → List Value} {k : Nat}

def flat (enc : α → List Value) (xs : List α) : List Value := xs.flatMap enc

theorem flat_length (hk : ∀ x, (enc x).length = k) : ∀ xs : List α, (flat enc xs).length = xs.length * k
  | [] => by simp [flat]
  | x :: xs => by
    have h := flat_length hk xs
    simp only [flat, List.flatMap_cons, List.length_append, List.length_cons, hk] at h ⊢
    rw [h, Nat.succ_mul]
    omega

theorem flat_at (hk : ∀ x, (enc x).length = k) : ∀ (xs : List α) (i j : Nat) (x : α), xs[i]? = some x → j < k → (flat enc xs)[i * k + j]? = (enc x)[j]?
  | [], i, j, x, h, _ => by simp at h
  | y :: xs, 0, j, x, h, hj => by
    simp at h
    subst h
    simp only [flat, List.flatMap_cons, Nat.zero_mul, Nat.zero_add]
    rw [List.getElem?_append_left (by rw [hk]; exact hj)]
  | y :: xs, i + 1, j, x, h, hj => by
    have ih := flat_at hk xs i j x (by simpa using h) hj
    simp only [flat, List.flatMap_cons]
    rw [List.getElem?_append_right (by rw [hk, Nat.succ_mul]; omega), hk, show (i + 1) * k + j - k = i * k + j by rw [Nat.succ_mul]; omega]
    exact ih

theorem flat_append (xs ys : List α) : flat enc (xs ++ ys) = flat enc xs ++ flat enc ys := by simp [flat]
theorem flat_one (x : α) : flat enc [x] = enc x := by simp [flat]

/-- The slice that begins at a reads as xs, k cells each. -/
def Rs (enc : α → List Value) (k : Nat) (w : World) (a : Option Addr) (xs : List α) : Prop :=
  xs = [] ∨ ∃ b off, a = some ⟨b, off, none⟩ ∧ ∀ i x, xs[i]? = some x → ∀ j u, (enc x)[j]? = some u → w.cell? ⟨b, off + i * k + j, none⟩ = some u

theorem Rs.below {w w' : World} {a : Option Addr} {xs : List α} (h : Rs enc k w a xs) {B : Nat} (hb : Below B w w') (hB : w.heap.size ≤ B) : Rs enc k w' a xs := by
  rcases h with h | ⟨b, off, ha, hc⟩
  · exact .inl h
  · refine .inr ⟨b, off, ha, fun i x hx j u hu => ?_⟩
    have h0 := hc i x hx j u hu
    exact (hb.cell (p := ⟨b, _, none⟩) (Nat.lt_of_lt_of_le (World.block_lt_of_cell? w _ h0) hB)).trans h0

/-- .. in a block from lo to below hi, which may be written. -/
def SlIn (enc : α → List Value) (k : Nat) (lo hi : Nat) (w : World) (a : Option Addr) (xs : List α) : Prop :=
  xs = [] ∨ ∃ b off, a = some ⟨b, off, none⟩ ∧ lo ≤ b ∧ b < hi ∧ ∀ i x, xs[i]? = some x → ∀ j u, (enc x)[j]? = some u → w.cell? ⟨b, off + i * k + j, none⟩ = some u ∧ w.frozen? ⟨b, off + i * k + j, none⟩ = false

theorem SlIn.reads {lo hi : Nat} {w : World} {a : Option Addr} {xs : List α} (h : SlIn enc k lo hi w a xs) : Rs enc k w a xs := by
  rcases h with h | ⟨b, off, ha, _, _, hc⟩
  · exact .inl h
  · exact .inr ⟨b, off, ha, fun i x hx j u hu => (hc i x hx j u hu).1⟩

theorem SlIn.turned {l u lo hi : Nat} {w w' : World} {a : Option Addr} {xs : List α} (h : SlIn enc k l u w a xs) (ht : Turned lo hi w w') (hn : u ≤ lo ∨ hi ≤ l) : SlIn enc k l u w' a xs := by
  rcases h with h | ⟨b, off, ha, h1, h2, hc⟩
  · exact .inl h
  · refine .inr ⟨b, off, ha, h1, h2, fun i x hx j v hv => ?_⟩
    obtain ⟨e1, e2⟩ := hc i x hx j v hv
    exact ⟨ht.cell e1 (by simp only; omega), (ht.frozen e1 (by simp only; omega)).trans e2⟩

theorem SlIn.below {l u : Nat} {w w' : World} {a : Option Addr} {xs : List α} (h : SlIn enc k l u w a xs) (hb : Below w.heap.size w w') : SlIn enc k l u w' a xs :=
  h.turned (lo := u) (hi := u) (Turned.ofBelow hb) (.inl (Nat.le_refl _))

theorem SlIn.mono {lo hi lo' hi' : Nat} {w : World} {a : Option Addr} {xs : List α} (h : SlIn enc k lo hi w a xs) (hl : lo' ≤ lo) (hh : hi ≤ hi') : SlIn enc k lo' hi' w a xs := by
  rcases h with h | ⟨b, off, ha, h1, h2, hc⟩
  · exact .inl h
  · exact .inr ⟨b, off, ha, by omega, by omega, hc⟩

/-- What the call appended itself. -/
theorem SlIn.ofRow {base e : Nat} {w : World} {v : Value} {xs : List α} (hk : ∀ x, (enc x).length = k) (h : w.ownsRow base e k v xs.length (flat enc xs)) : ∃ a c, v = .slice a xs.length c ∧ xs.length ≤ c ∧ SlIn enc k base w.heap.size w a xs ∧ (a = none → c = 0) := by
  obtain ⟨hl, h | ⟨g, cap, cur, rfl, hb, hc, hn, hm, hs, ht⟩⟩ := h
  · obtain ⟨rfl, h0⟩ := h
    refine ⟨none, 0, by rw [h0], by omega, .inl (List.length_eq_zero_iff.1 h0), fun _ => rfl⟩
  · refine ⟨_, cap, rfl, hn, .inr ⟨g, 0, rfl, hb, (Array.getElem?_eq_some_iff.1 hc).1, fun i x hx j u hu => ?_⟩, fun e => by cases e⟩
    have hj : j < k := by rw [← hk x]; exact (List.getElem?_eq_some_iff.1 hu).1
    have e := flat_at hk xs i j x hx hj
    have hi : i < xs.length := (List.getElem?_eq_some_iff.1 hx).1
    have hlt : i * k + j < xs.length * k := by
      have : i * k + k ≤ xs.length * k := by rw [← Nat.succ_mul]; exact Nat.mul_le_mul_right _ hi
      omega
    have e2 : cur[i * k + j]? = some u := by
      rw [← Array.getElem?_toList, ← hu, ← e, ← ht, List.getElem?_take_of_lt hlt]
    rw [Nat.zero_add]
    constructor
    · simp [World.cell?, hc, e2]
    · simp [World.frozen?, hc]
end

end Go.Proofs.YtdgonddimenmdaaGreat

/-
  Which of two rows is before the other: both functions answer alike.
-/
namespace Go.Proofs.YtdgonddimenmdaaGreat
open Go.RowKit

/-- Is the row with table t, key k before the one with table u, key l? -/
def befB (t k u l : Int) : Bool := decide (t < u) || (decide (t = u) && decide (k < l))

set_option maxHeartbeats 400000 in
theorem implIsBefore_any (t k v : Int) (s : ByteArray) (u l x : Int) (r : ByteArray) (w : World) :
    Calls Tryz.prog 31 #[.agg #[.int .i64 t, .int .i64 k, .int .i64 v, .string s], .agg #[.int .i64 u, .int .i64 l, .int .i64 x, .string r]] w fun e w' => e = .returned (.bool (befB t k u l)) ∧ Below w.heap.size w w' := by
  by_cases h1 : t < u
  · have e1 : befB t k u l = true := by simp [befB, h1]
    have d1 : decide (t < u) = true := by simpa using h1
    rw [e1]
    go_enter Tryz.func31, Tryz.ntmps31
    go_wp2
    go_ret
    exact ⟨rfl, by go_grown⟩
  · have d1 : decide (t < u) = false := by simpa using h1
    by_cases h2 : t = u
    · subst h2
      by_cases h3 : k < l
      · have e1 : befB t k t l = true := by simp [befB, h3]
        rw [e1]
        go_enter Tryz.func31, Tryz.ntmps31
        go_wp2
        go_ret
        exact ⟨rfl, by go_grown⟩
      · have e1 : befB t k t l = false := by simp [befB]; omega
        have d3 : decide (k < l) = false := by simpa using h3
        rw [e1]
        go_enter Tryz.func31, Tryz.ntmps31
        go_wp2
        go_ret
        exact ⟨rfl, by go_grown⟩
    · have e1 : befB t k u l = false := by simp [befB]; omega
      have d2 : (t == u) = false := by simpa using h2
      rw [e1]
      go_enter Tryz.func31, Tryz.ntmps31
      go_wp2
      go_ret
      exact ⟨rfl, by go_grown⟩

set_option maxHeartbeats 400000 in
theorem l1Before_any (a b : Nat) (t k u l : Int) (w : World) (ha0 : w.cell? ⟨a, 0, none⟩ = some (.int .i64 t)) (ha1 : w.cell? ⟨a, 1, none⟩ = some (.int .i64 k)) (hb0 : w.cell? ⟨b, 0, none⟩ = some (.int .i64 u)) (hb1 : w.cell? ⟨b, 1, none⟩ = some (.int .i64 l)) :
    Calls Tryz.prog 79 #[.pointer (some ⟨a, 0, none⟩), .pointer (some ⟨b, 0, none⟩)] w fun e w' => e = .returned (.bool (befB t k u l)) ∧ ∃ n, w' = w.drewN n := by
  by_cases h1 : t < u
  · have e1 : befB t k u l = true := by simp [befB, h1]
    have d1 : decide (t < u) = true := by simpa using h1
    rw [e1]
    go_enter Tryz.func79, Tryz.ntmps79
    go_wp2
    go_quiet (fail)
    go_wp2
    go_ret
    exact ⟨rfl, _, rfl⟩
  · have d1 : decide (t < u) = false := by simpa using h1
    by_cases h2 : t = u
    · subst h2
      by_cases h3 : k < l
      · have e1 : befB t k t l = true := by simp [befB, h3]
        rw [e1]
        go_enter Tryz.func79, Tryz.ntmps79
        go_wp2
        go_quiet (fail)
        go_wp2
        go_ret
        exact ⟨rfl, _, rfl⟩
      · have e1 : befB t k t l = false := by simp [befB]; omega
        have d3 : decide (k < l) = false := by simpa using h3
        rw [e1]
        go_enter Tryz.func79, Tryz.ntmps79
        go_wp2
        go_quiet (fail)
        go_wp2
        go_ret
        exact ⟨rfl, _, rfl⟩
    · have e1 : befB t k u l = false := by simp [befB]; omega
      have d2 : (t == u) = false := by simpa using h2
      rw [e1]
      go_enter Tryz.func79, Tryz.ntmps79
      go_wp2
      go_quiet (fail)
      go_wp2
      go_ret
      exact ⟨rfl, _, rfl⟩

end Go.Proofs.YtdgonddimenmdaaGreat
