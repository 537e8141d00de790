/-
  The contracts of l1Source, l1Pick, l1Draw: a source, a number out of a list, a row: whatever is drawn is within its bounds.
-/
import Derived.Test.YtcjkjenebnodbaaDoorSDDrp
import Derived.Test.YtcjkjenebnodbaaDoorSDClo
import Derived.Test.YtcjkjenebnodbaaDoorSDLpo

namespace Go.Proofs.YtcjkjenebnodbaaDoor.Dr
open Go.RowKit

set_option maxHeartbeats 400000 in
theorem l1Source_any (a : Option Addr) (n c : Nat) (zs : List Int) (w : World) (rd : Reads w a zs) (hn : zs.length = n) (hm : n ≤ 1048576) (hz : ∀ z ∈ zs, 0 ≤ z ∧ z ≤ 255) :
    Calls Tryd.prog 21 #[.slice a n c] w fun e w' => e = .returned (.pointer (some ⟨w.heap.size, 0, none⟩)) ∧ Below w.heap.size w w' ∧ w.heap.size < w'.heap.size ∧ SrcAt w' w.heap.size a n c zs 0 := by
  have hfar : ∀ p, a = some p → zs ≠ [] → p.block < w.heap.size := by
    intro p hp hne
    rcases rd with hr | ⟨x, o, ha, hc⟩
    · exact absurd hr hne
    · rw [ha] at hp
      cases hp
      exact World.block_lt_of_cell? w _ (hc 0 (List.length_pos_iff.2 hne))
  have HF : Hid (∀ p, a = some p → zs ≠ [] → p.block < w.heap.size) := hfar
  clear hfar
  go_enter Tryd.func21, Tryd.ntmps21
  go_wp2
  go_ret
  exact ⟨rfl, by go_grown, by simp, ⟨by simp [go_sem], by simp [go_sem], by simp [go_sem], rd.below (B := w.heap.size) (by go_grown) (Nat.le_refl _), HF.out, hn, hm, hz, by omega, by omega⟩⟩

theorem SrcAt.below {w w' : World} {b : Nat} {a : Option Addr} {n c : Nat} {zs : List Int} {i : Int} (h : SrcAt w b a n c zs i) (hb : Below w.heap.size w w') : SrcAt w' b a n c zs i := by
  have hlt : b < w.heap.size := World.block_lt_of_cell? w _ h.c0
  exact ⟨(hb.cell (p := ⟨b, 0, none⟩) hlt).trans h.c0, (hb.cell (p := ⟨b, 1, none⟩) hlt).trans h.c1, (hb.frozen (p := ⟨b, 1, none⟩) hlt).trans h.f1, h.rd.below hb (Nat.le_refl _), h.far, h.hn, h.hm, h.hz, h.i0, h.i1⟩

theorem SrcAt.lt {w : World} {b : Nat} {a : Option Addr} {n c : Nat} {zs : List Int} {i : Int} (h : SrcAt w b a n c zs i) : b < w.heap.size := World.block_lt_of_cell? w _ h.c0

/-- Block g holds the numbers vs. -/
def IntsAt (w : World) (g : Nat) (vs : List Int) : Prop := ∀ k, k < vs.length → w.cell? ⟨g, k, none⟩ = some (.int .i64 (vs.getD k 0))

set_option maxHeartbeats 400000 in
theorem l1Pick_any (b g L : Nat) (a : Option Addr) (n c : Nat) (zs vs : List Int) (i : Int) (w : World) (h : SrcAt w b a n c zs i) (i9 : i ≤ 99999) (hv : IntsAt w g vs) (hL : vs.length = L) (L0 : 1 ≤ L) (L1 : L ≤ 100) (hg : b < g) :
    Calls Tryd.prog 43 #[.pointer (some ⟨b, 0, none⟩), .slice (some ⟨g, 0, none⟩) L L] w fun e w' => (∃ k, k < vs.length ∧ e = .returned (.int .i64 (vs.getD k 0))) ∧ Turned b (b + 1) w w' ∧ SrcAt w' b a n c zs (i + 1) := by
  go_enter Tryd.func43, Tryd.ntmps43
  go_wp2_with fail
  refine (l1Next_any b a n c zs i L _ h i9 (by omega) (by omega)).mono ?_
  rintro e w1 ⟨⟨r, rfl, r0, r1⟩, ht, hS⟩
  have hk : r.toNat < vs.length := by omega
  have hc := ht.cell (hv r.toNat hk) (.inr (show b + 1 ≤ g by omega))
  obtain ⟨x, hx⟩ : ∃ x, x = vs.getD r.toNat 0 := ⟨_, rfl⟩
  rw [← hx] at hc
  have HX : Hid (x = vs.getD r.toNat 0) := hx
  have HH : Hid (Turned b (b + 1) w w1 ∧ SrcAt w1 b a n c zs (i + 1)) := ⟨ht, hS⟩
  clear hx ht hS h hv
  go_wp2_with fail
  go_ret
  exact ⟨⟨r.toNat, hk, by rw [← HX.out]; rfl⟩, HH.out⟩

theorem Turned.setNew {lo hi : Nat} {w w' : World} (h : Turned lo hi w w') {p : Addr} (hp : w.heap.size ≤ p.block) (v : Value) : Turned lo hi w (w'.setCell p v) :=
  ⟨h.os, h.tape, h.output, by have := h.size; simp [World.setCell]; omega, fun k hk hn => (Below.heap_setCell _ _ _ _ (by omega)).trans (h.block k hk hn)⟩

theorem SrcAt.setFar {w : World} {b : Nat} {a : Option Addr} {n c : Nat} {zs : List Int} {i : Int} (h : SrcAt w b a n c zs i) {p : Addr} (hp : b < p.block) (v : Value) : SrcAt (w.setCell p v) b a n c zs i := by
  have hne : ∀ o, p ≠ ⟨b, o, none⟩ := fun o e => by have := congrArg Addr.block e; simp at this; omega
  refine ⟨by rw [World.cell?_setCell_other _ _ _ _ (hne 0)]; exact h.c0, by rw [World.cell?_setCell_other _ _ _ _ (hne 1)]; exact h.c1, by rw [World.frozen?_setCell]; exact h.f1, ?_, h.far, h.hn, h.hm, h.hz, h.i0, h.i1⟩
  rcases h.rd with hr | ⟨x, o, ha, hc⟩
  · exact .inl hr
  · refine .inr ⟨x, o, ha, fun k hk => ?_⟩
    have hx : x < b := h.far ⟨x, o, none⟩ ha (by intro e; rw [e] at hk; simp at hk)
    rw [World.cell?_setCell_other _ _ _ _ (fun e => by have := congrArg Addr.block e; simp at this; omega)]
    exact hc k hk

end Go.Proofs.YtcjkjenebnodbaaDoor.Dr

/-
  The contracts of l1Chance and l1Some: some bytes, whatever is drawn.
-/
namespace Go.Proofs.YtcjkjenebnodbaaDoor.Dr
open Go.RowKit
set_option linter.unusedVariables false

set_option maxHeartbeats 400000 in
theorem l1Chance_any (b : Nat) (a : Option Addr) (n c : Nat) (zs : List Int) (i m : Int) (w : World) (h : SrcAt w b a n c zs i) (i9 : i ≤ 99999) (m0 : 1 ≤ m) (m1 : m ≤ 65536) :
    Calls Tryd.prog 79 #[.pointer (some ⟨b, 0, none⟩), .int .i64 m] w fun e w' => (∃ r, e = .returned (.bool r)) ∧ Turned b (b + 1) w w' ∧ SrcAt w' b a n c zs (i + 1) := by
  go_enter Tryd.func79, Tryd.ntmps79
  go_wp2_with fail
  refine (l1Next_any b a n c zs i m w h i9 m0 m1).mono ?_
  rintro e w1 ⟨⟨r, rfl, _, _⟩, ht, hS⟩
  go_wp2_with fail
  go_ret
  exact ⟨⟨_, rfl⟩, ht, hS⟩

/-- What is gathered: k bytes in a row of its own. -/
def Gath (base : Nat) (w : World) (v : Value) (k : Nat) : Prop := ∃ ys : List Int, ys.length = k ∧ (∀ z ∈ ys, 0 ≤ z ∧ z ≤ 255) ∧ w.ownsRow base 5 1 v k (ys.map (Value.int .u8))

theorem owns_turned {w w' : World} {lo hi base k : Nat} {v : Value} {xs : List Value} (h : w.ownsRow base 5 1 v k xs) (ht : Turned lo hi w w') (hb : hi ≤ base) : w'.ownsRow base 5 1 v k xs := by
  refine ⟨h.1, ?_⟩
  rcases h.2 with h0 | ⟨g, cap, cur, hv, hg0, hg, hr⟩
  · exact .inl h0
  · exact .inr ⟨g, cap, cur, hv, hg0, (ht.block g (Array.getElem?_eq_some_iff.1 hg).1 (by omega)).trans hg, hr⟩

theorem SrcAt.low {w w' : World} {B b : Nat} {a : Option Addr} {n c : Nat} {zs : List Int} {i : Int} (h : SrcAt w b a n c zs i) (hb : Below B w w') (hB : b < B) : SrcAt w' b a n c zs i := by
  refine ⟨(hb.cell (p := ⟨b, 0, none⟩) hB).trans h.c0, (hb.cell (p := ⟨b, 1, none⟩) hB).trans h.c1, (hb.frozen (p := ⟨b, 1, none⟩) hB).trans h.f1, ?_, h.far, h.hn, h.hm, h.hz, h.i0, h.i1⟩
  rcases h.rd with hr | ⟨x, o, ha, hc⟩
  · exact .inl hr
  · refine .inr ⟨x, o, ha, fun k hk => ?_⟩
    have hx : x < b := h.far ⟨x, o, none⟩ ha (by intro e; rw [e] at hk; simp at hk)
    exact (hb.cell (p := ⟨x, o + k, none⟩) (by simp only; omega)).trans (hc k hk)

set_option maxRecDepth 20000 in
set_option maxHeartbeats 2000000 in
theorem l1Some_any (b : Nat) (a : Option Addr) (n c : Nat) (zs : List Int) (i : Int) (m : Nat) (w : World) (h : SrcAt w b a n c zs i) (hi : i + m ≤ 99999) (hm : m ≤ 64) :
    Calls Tryd.prog 24 #[.pointer (some ⟨b, 0, none⟩), .int .i64 m] w fun e w' => ∃ v, e = .returned v ∧ Gath w.heap.size w' v m ∧ Turned b (b + 1) w w' ∧ SrcAt w' b a n c zs (i + m) := by
  obtain ⟨i0, hi0, hz0, hz1, hz2⟩ := info5
  have hbl := h.lt
  go_enter Tryd.func24, Tryd.ntmps24
  go_wp2_with fail
  have g0 : Below w.heap.size w (w.alloc (.cells #[] 5)) := (Below.refl _ _).alloc (Nat.le_refl _) _
  have hG : Gath w.heap.size (w.alloc (.cells #[] 5)) (.slice (some ⟨w.heap.size, 0, none⟩) 0 0) 0 := ⟨[], rfl, fun z hz => by simp at hz, by simpa using World.ownsRow_lit (base := w.heap.size) (e := 5) (size := 1) w #[] 0 (Nat.le_refl _) (by unfold maxLen; omega) rfl⟩
  have hS0 := h.below g0
  have hT0 : Turned b (b + 1) w (w.alloc (.cells #[] 5)) := Turned.ofBelow g0
  go_loopw [1, 5] (fun ii vv wr => ∃ (k : Nat), k ≤ m ∧ ii = .int .i64 ((m - k : Nat)) ∧ Gath w.heap.size wr vv k ∧ Turned b (b + 1) w wr ∧ SrcAt wr b a n c zs (i + k)) (fun ii _ _ => (intOf ii).toNat)
  case atStart => exact ⟨0, Nat.zero_le _, rfl, hG, hT0, by simpa using hS0⟩
  case round =>
    obtain ⟨k, hk, rfl, ⟨ys, yl, yb, hown⟩, hT, hS⟩ := hrel
    clear hG hS0 hT0 g0
    by_cases hlt : k < m
    · have d1 : (0 : Int) < ((m - k : Nat) : Int) := by omega
      have hszr := hT.size
      go_wp2_with fail
      refine (l1Next_any b a n c zs (i + k) 256 wr hS (by omega) (by omega) (by omega)).mono ?_
      rintro e w1 ⟨⟨r, rfl, r0, r1⟩, ht, hS1⟩
      have hown1 := owns_turned hown ht (by omega)
      have hT1 := hT.trans ht
      have hsz1 := hT1.size
      clear hown ht hS hT
      go_wp2_with (at_builtin; refine wpList_append_own _ rfl _ _ 22 rfl w.heap.size 5 i0 (.int .u8 0) 1 1 Tryd.underlying22 hi0 hz0 hz1 hz2 rfl (by decide) _ _ _ rfl (hown1.alloc _) ⟨w1.heap.size, 0, none⟩ 1 1 [.int .u8 r] rfl rfl ?n1 ?n2 ?n3 ?n4 ?n5 ?_)
      case n1 =>
        intro j u hu
        match j, hu with
        | 0, hu => simp at hu; subst hu; simp [go_sem, Addr.add]
      case n2 =>
        intro u hu
        simp at hu
        subst hu
        rfl
      case n3 => unfold maxLen; omega
      case n4 => omega
      case n5 => simp; omega
      intro v' w6 hown' hgrow _
      have hBl : Below w.heap.size w1 w6 := Below.grown ((Below.refl w.heap.size w1).alloc hsz1 _) hgrow (by simp; omega) (fun j e => (hown1.lt j e).1)
      have hT6 : Turned b (b + 1) w w6 := ⟨hBl.os.trans hT1.os, hBl.tape.trans hT1.tape, hBl.output.trans hT1.output, Nat.le_trans hT1.size hBl.size, fun q hq hn => (hBl.block q hq).trans (hT1.block q hq hn)⟩
      have hS6 := hS1.low hBl hbl
      have hG6 : Gath w.heap.size w6 v' (k + 1) := ⟨ys ++ [r], by simp [yl], fun z hz => by
        rw [List.mem_append, List.mem_singleton] at hz
        rcases hz with hz | hz
        · exact yb z hz
        · omega, by simpa using hown'⟩
      clear hgrow hown' hown1 hS1 hT1 hBl
      go_wp2_with fail
      go_roundw
      case rel => exact ⟨k + 1, by omega, by go_num, hG6, hT6, by have := hS6; rwa [show i + (k : Int) + 1 = i + ((k + 1 : Nat) : Int) by omega] at this⟩
      case measure => simp [intOf]; omega
    · have d1 : ¬ (0 : Int) < ((m - k : Nat) : Int) := by omega
      obtain rfl : k = m := by omega
      go_wp2_with fail
      go_ret
      exact ⟨_, rfl, ⟨ys, yl, yb, hown⟩, hT, hS⟩

end Go.Proofs.YtcjkjenebnodbaaDoor.Dr

/-
  The contracts of both SlotIn.
-/
namespace Go.Proofs.YtcjkjenebnodbaaDoor.Dr
open Go.RowKit
set_option linter.unusedVariables false

def slotQ (zs : List Int) (x : Int) : Int := if fltOf zs = 0 then (if hasC zs x = true then 0 else 4) else fltOf zs
def slotB (zs : List Int) (x : Int) : List Int := if fltOf zs = 0 then (if hasC zs x = true then cellOf zs x.toNat else []) else []

/-- Block b holds the two cells of a BytesResult, and may be written. -/
structure BRes (w : World) (b : Nat) (q : Int) (v : Value) : Prop where
  c0 : w.cell? ⟨b, 0, none⟩ = some (.int .i64 q)
  c1 : w.cell? ⟨b, 1, none⟩ = some v
  f0 : w.frozen? ⟨b, 0, none⟩ = false
  f1 : w.frozen? ⟨b, 1, none⟩ = false
theorem BRes.lt {b : Nat} {w : World} {q : Int} {v : Value} (h : BRes w b q v) : b < w.heap.size := World.block_lt_of_cell? w _ h.c0
theorem BRes.below {b : Nat} {w w' : World} {q : Int} {v : Value} (h : BRes w b q v) (hb : Below w.heap.size w w') : BRes w' b q v :=
  ⟨(hb.cell (p := ⟨b, 0, none⟩) h.lt).trans h.c0, (hb.cell (p := ⟨b, 1, none⟩) h.lt).trans h.c1, (hb.frozen (p := ⟨b, 0, none⟩) h.lt).trans h.f0, (hb.frozen (p := ⟨b, 1, none⟩) h.lt).trans h.f1⟩

theorem hasC_slot {zs : List Int} {x : Int} (h : hasC zs x = true) : ∃ s : Nat, x = (s : Int) ∧ s < nb zs 0 ∧ empB zs s = false := by
  unfold hasC at h
  rw [Bool.and_eq_true] at h
  have h1 := h.1
  simp [inR] at h1
  exact ⟨x.toNat, by omega, by omega, by simpa using h.2⟩

theorem Arr.cellReads {V : World} {b : Nat} {ys : List Int} (h : Arr V b ys) (p l : Nat) (hl : p + l ≤ 64) : Reads V (some ⟨b, p, none⟩) ((ys.drop p).take l) := by
  have := (h.bytes (Nat.zero_le _) h.lt).reads.cell p l (by rw [h.len]; exact hl)
  rw [Nat.zero_add] at this
  exact this

def SlS (w : World) (zs : List Int) (x y b p l : Nat) (V : World) : Prop := (∃ v : Value, V.cell? ⟨x, 1, none⟩ = some v) ∧ V.cell? ⟨x, 0, none⟩ = some (.int .i64 0) ∧ V.frozen? ⟨x, 0, none⟩ = false ∧ V.frozen? ⟨x, 1, none⟩ = false ∧ V.cell? ⟨y, 0, none⟩ = some (.int .u64 p) ∧ V.cell? ⟨y, 1, none⟩ = some (.int .u64 l) ∧ Arr V b zs ∧ Below w.heap.size w V
theorem slKeep {w : World} {zs : List Int} {x y b p l : Nat} {W V : World} (h : SlS w zs x y b p l W) (hb : Below W.heap.size W V) : SlS w zs x y b p l V := by
  obtain ⟨⟨v, h1⟩, h2, h3, h4, h5, h6, h7, h8⟩ := h
  have hx : x < W.heap.size := World.block_lt_of_cell? W _ h1
  have hy : y < W.heap.size := World.block_lt_of_cell? W _ h5
  exact ⟨⟨v, (hb.cell (p := ⟨x, 1, none⟩) hx).trans h1⟩, (hb.cell (p := ⟨x, 0, none⟩) hx).trans h2, (hb.frozen (p := ⟨x, 0, none⟩) hx).trans h3, (hb.frozen (p := ⟨x, 1, none⟩) hx).trans h4, (hb.cell (p := ⟨y, 0, none⟩) hy).trans h5, (hb.cell (p := ⟨y, 1, none⟩) hy).trans h6, h7.grown hb, h8.trans (hb.mono h8.size)⟩

end Go.Proofs.YtcjkjenebnodbaaDoor.Dr

/-
  The contract of the program's CompactPage.
-/
namespace Go.Proofs.YtcjkjenebnodbaaDoor.Dr
open Go.RowKit
set_option linter.unusedVariables false

/-- What CompactPage answers: its code, its page. -/
def cqQ (zs : List Int) : Int := fltOf zs
def cqB (zs : List Int) : List Int := if fltOf zs = 0 then cpP zs (nb zs 0) else []

/-- What the loop carries beside the packed page. -/
structure CpS (w : World) (b : Nat) (ys : List Int) (V : World) : Prop where
  a : Arr V b ys
  x : PRes V w.heap.size 0 0 (.slice none 0 0)
  g : Below w.heap.size w V
theorem CpS.below {w : World} {b : Nat} {ys : List Int} {W V : World} (h : CpS w b ys W) (hb : Below W.heap.size W V) : CpS w b ys V := ⟨h.a.grown hb, h.x.grown hb, h.g.trans (hb.mono h.g.size)⟩
theorem CpS.turned {w : World} {b pb : Nat} {ys : List Int} {W V : World} (h : CpS w b ys W) (ht : Turned pb (pb + 1) W V) (hn : w.heap.size < b ∧ b < pb) : CpS w b ys V := ⟨h.a.turned ht (.inl hn.2), h.x.turned ht (.inl (by omega)), h.g.trans (ht.toBelow h.g.size (by omega))⟩
theorem CpS.rd {w : World} {b k : Nat} {ys : List Int} {W : World} (h : CpS w b ys W) (p l : Nat) (e : cellOf ys k = (ys.drop p).take l) (hl : p + l ≤ 64) : Reads W (some ⟨b, p, none⟩) (cellOf ys k) := by
  rw [e]
  exact h.a.cellReads p l hl
theorem cpKeep {w : World} {b y : Nat} {p l : Int} {ys : List Int} {W V : World} (h : W.cell? ⟨y, 0, none⟩ = some (.int .u64 p) ∧ W.cell? ⟨y, 1, none⟩ = some (.int .u64 l) ∧ CpS w b ys W) (hb : Below W.heap.size W V) :
    V.cell? ⟨y, 0, none⟩ = some (.int .u64 p) ∧ V.cell? ⟨y, 1, none⟩ = some (.int .u64 l) ∧ CpS w b ys V :=
  ⟨(hb.cell (World.block_lt_of_cell? W _ h.1)).trans h.1, (hb.cell (World.block_lt_of_cell? W _ h.2.1)).trans h.2.1, h.2.2.below hb⟩
theorem cpTurn {w : World} {b y pb : Nat} {p l : Int} {ys : List Int} {W V : World} (h : W.cell? ⟨y, 0, none⟩ = some (.int .u64 p) ∧ W.cell? ⟨y, 1, none⟩ = some (.int .u64 l) ∧ CpS w b ys W) (ht : Turned pb (pb + 1) W V) (hy : pb < y) (hn : w.heap.size < b ∧ b < pb) :
    V.cell? ⟨y, 0, none⟩ = some (.int .u64 p) ∧ V.cell? ⟨y, 1, none⟩ = some (.int .u64 l) ∧ CpS w b ys V :=
  ⟨ht.cell h.1 (by simp only; omega), ht.cell h.2.1 (by simp only; omega), h.2.2.turned ht hn⟩

end Go.Proofs.YtcjkjenebnodbaaDoor.Dr
