/-
  The contracts of NewPage and of the model's: a new page, all its bytes fill but the first two.
-/
import Derived.Test.YtcjkjenebnodbaaDoorSDCopy
import Derived.Deep.Cut

namespace Go.Proofs.YtcjkjenebnodbaaDoor.Dr
open Go.RowKit

def newBytes (f : Int) : List Int := 0 :: 64 :: List.replicate 62 f
/-- The first k bytes are f, the others 0. -/
def filled (f : Int) (k : Nat) : List Int := List.replicate k f ++ List.replicate (64 - k) 0

theorem filled_set (f : Int) (k : Nat) (h : k < 64) : (filled f k).set k f = filled f (k + 1) := by
  unfold filled
  rw [List.set_append_right _ _ (by simp), List.length_replicate, Nat.sub_self, show 64 - k = (63 - k) + 1 by omega, List.replicate_succ, List.set_cons_zero, show 64 - (k + 1) = 63 - k by omega, List.replicate_succ']
  simp

theorem filled_new (f : Int) : ((filled f 64).set 0 0).set 1 64 = newBytes f := rfl

/-- Block b holds the three cells of a PageResult, and may be written. -/
structure PRes (w : World) (b : Nat) (q s : Int) (v : Value) : Prop where
  c0 : w.cell? ⟨b, 0, none⟩ = some (.int .i64 q)
  c1 : w.cell? ⟨b, 1, none⟩ = some (.int .i64 s)
  c2 : w.cell? ⟨b, 2, none⟩ = some v
  f0 : w.frozen? ⟨b, 0, none⟩ = false
  f1 : w.frozen? ⟨b, 1, none⟩ = false
  f2 : w.frozen? ⟨b, 2, none⟩ = false

theorem PRes.below {B b : Nat} {w w' : World} {q s : Int} {v : Value} (h : PRes w b q s v) (hb : Below B w w') (hlt : b < B) : PRes w' b q s v :=
  ⟨(hb.cell (p := ⟨b, 0, none⟩) hlt).trans h.c0, (hb.cell (p := ⟨b, 1, none⟩) hlt).trans h.c1, (hb.cell (p := ⟨b, 2, none⟩) hlt).trans h.c2, (hb.frozen (p := ⟨b, 0, none⟩) hlt).trans h.f0, (hb.frozen (p := ⟨b, 1, none⟩) hlt).trans h.f1, (hb.frozen (p := ⟨b, 2, none⟩) hlt).trans h.f2⟩
theorem PRes.lt {b : Nat} {w : World} {q s : Int} {v : Value} (h : PRes w b q s v) : b < w.heap.size := World.block_lt_of_cell? w _ h.c0
theorem PRes.other {b : Nat} {w : World} {q s : Int} {v : Value} (h : PRes w b q s v) (p : Addr) (u : Value) (hn : p.block ≠ b) : PRes (w.setCell p u) b q s v := by
  have hd : ∀ i, (w.setCell p u).cell? ⟨b, i, none⟩ = w.cell? ⟨b, i, none⟩ := fun i => World.cell?_setCell_other _ _ _ _ (fun e => hn (by rw [e]))
  exact ⟨(hd 0).trans h.c0, (hd 1).trans h.c1, (hd 2).trans h.c2, by rw [World.frozen?_setCell]; exact h.f0, by rw [World.frozen?_setCell]; exact h.f1, by rw [World.frozen?_setCell]; exact h.f2⟩

theorem BytesIn.set {lo up : Nat} {w : World} {b off : Nat} {zs : List Int} (h : BytesIn lo up w (some ⟨b, off, none⟩) zs) (i : Nat) (hi : i < zs.length) (v : Int) : BytesIn lo up (w.setCell ⟨b, off + i, none⟩ (.int .u8 v)) (some ⟨b, off, none⟩) (zs.set i v) := by
  rcases h with h | ⟨b', off', ha, h1, h2, hc, hf⟩
  · rw [h] at hi; simp at hi
  · simp only [Option.some.injEq, Addr.mk.injEq, and_true] at ha
    obtain ⟨rfl, rfl⟩ := ha
    refine .inr ⟨b, off, rfl, h1, h2, fun j hj => ?_, fun j hj => ?_⟩
    · rw [List.length_set] at hj
      by_cases e : i = j
      · subst e
        rw [World.cell?_setCell_same _ _ _ (hc i hj)]
        simp [List.getD, hj]
      · rw [World.cell?_setCell_other _ _ _ _ (fun h => e (by have := congrArg Addr.off h; simp at this; omega)), hc j hj]
        simp [List.getD, e]
    · rw [World.frozen?_setCell]
      exact hf j (by rw [List.length_set] at hj; exact hj)
theorem BytesIn.at {lo up : Nat} {w : World} {b off : Nat} {zs : List Int} (h : BytesIn lo up w (some ⟨b, off, none⟩) zs) (i : Nat) (hi : i < zs.length) : w.cell? ⟨b, off + i, none⟩ = some (.int .u8 (zs.getD i 0)) ∧ w.frozen? ⟨b, off + i, none⟩ = false := by
  rcases h with h | ⟨b', off', ha, h1, h2, hc, hf⟩
  · rw [h] at hi; simp at hi
  · simp only [Option.some.injEq, Addr.mk.injEq, and_true] at ha
    obtain ⟨rfl, rfl⟩ := ha
    exact ⟨hc i hi, hf i hi⟩

theorem filled_zero (f : Int) (i : Nat) : (filled f 0).getD i 0 = 0 := by
  show (List.replicate 64 (0 : Int)).getD i 0 = 0
  rw [List.getD_eq_getElem?_getD, List.getElem?_replicate]
  split <;> rfl
theorem filled_length (f : Int) (k : Nat) (h : k ≤ 64) : (filled f k).length = 64 := by simp [filled]; omega

set_option maxHeartbeats 1000000 in
theorem l2New_any (f : Int) (w : World) :
    Calls Tryd.prog 75 #[.int .u8 f] w fun e w' => e = .returned (.slice (some ⟨w.heap.size, 0, none⟩) 64 64) ∧ Below w.heap.size w w' ∧ BytesIn w.heap.size w'.heap.size w' (some ⟨w.heap.size, 0, none⟩) (newBytes f) := by
  obtain ⟨i0, hi, hz0, hz1, hz2⟩ := info5
  go_enter Tryd.func75, Tryd.ntmps75
  go_wp2_with (at_make; refine wpList_make_full _ rfl _ _ 22 rfl w.heap.size 5 i0 (.int .u8 0) 1 Tryd.underlying22 hi hz0 hz1 .i64 .i64 _ _ 64 rfl rfl rfl rfl ?c1 ?c2 (Nat.le_refl _) ?_)
  case c1 => rw [hz2]; omega
  case c2 => unfold maxLen; omega
  intro w1 hown hg
  have hB : Below w.heap.size w w1 := Below.grown (Below.refl _ _) hg (Nat.le_refl _) (fun k hk => by cases hk)
  have hlt1 : w.heap.size < w1.heap.size := (hown.lt w.heap.size (by simp [Value.ownBlock])).2
  have hY : BytesIn w.heap.size w1.heap.size w1 (some ⟨w.heap.size, 0, none⟩) (filled f 0) :=
    .inr ⟨w.heap.size, 0, rfl, Nat.le_refl _, hlt1, fun i hi => by
      have hi' : i < 64 := by rw [filled_length f 0 (by omega)] at hi; exact hi
      rw [Nat.zero_add, hown.cellAt i (by omega), made_zero 64 i hi']
      rw [filled_zero], fun i _ => by rw [Nat.zero_add]; exact hown.frozenAt i⟩
  clear hown hg hi hz0 hz1 hz2
  go_wp2_with fail
  go_loopw [4] (fun i wr => ∃ k : Nat, k ≤ 64 ∧ i = .int .i64 k ∧ wr.heap.size = w1.heap.size ∧ Below w.heap.size w wr ∧ BytesIn w.heap.size w1.heap.size wr (some ⟨w.heap.size, 0, none⟩) (filled f k)) (fun i _ => 64 - (intOf i).toNat)
  case atStart => exact ⟨0, by omega, rfl, rfl, hB, hY⟩
  case round =>
    obtain ⟨k, hk, rfl, hs, g, hA⟩ := hrel
    by_cases hlt : k < 64
    · obtain ⟨e1, e2⟩ := hA.at k (by rw [filled_length f k hk]; exact hlt)
      simp only [Nat.zero_add] at e1 e2
      have hi : (k : Int) < 64 := by omega
      go_wp2
      go_roundw
      case rel => exact ⟨k + 1, by omega, by go_num, by simpa using hs, g.setCell (by simp) _, by rw [← filled_set f k hlt]; simpa using hA.set k (by rw [filled_length f k hk]; exact hlt) f⟩
      case measure => simp [intOf]; omega
    · have e : k = 64 := by omega
      subst e
      obtain ⟨e0, e1⟩ := hA.at 0 (by rw [filled_length f _ hk]; omega)
      obtain ⟨e2, e3⟩ := hA.at 1 (by rw [filled_length f _ hk]; omega)
      simp only [Nat.zero_add] at e0 e1 e2 e3
      have hY := (hA.set 0 (by rw [filled_length f _ hk]; omega) 0).set 1 (by rw [List.length_set, filled_length f _ hk]; omega) 64
      rw [filled_new] at hY
      simp only [Nat.zero_add] at hY
      go_wp2
      go_ret
      exact ⟨rfl, (g.setCell (by simp) _).setCell (by simp) _, hY.mono (Nat.le_refl _) (by simp; omega)⟩

end Go.Proofs.YtcjkjenebnodbaaDoor.Dr

/-
  What compares, marks and looks through a PageResult, and what a law knows of two such answers meanwhile.
-/
namespace Go.Proofs.YtcjkjenebnodbaaDoor.Dr
open Go.RowKit

/-- Block b holds the three cells of a PageResult. -/
structure PAt (w : World) (b : Nat) (q s : Int) (a : Option Addr) (n c : Nat) : Prop where
  c0 : w.cell? ⟨b, 0, none⟩ = some (.int .i64 q)
  c1 : w.cell? ⟨b, 1, none⟩ = some (.int .i64 s)
  c2 : w.cell? ⟨b, 2, none⟩ = some (.slice a n c)

theorem PAt.turned {lo hi b : Nat} {w w' : World} {q s : Int} {a : Option Addr} {n c : Nat} (h : PAt w b q s a n c) (ht : Turned lo hi w w') (hn : b < lo ∨ hi ≤ b) : PAt w' b q s a n c :=
  ⟨ht.cell h.c0 (by simp only; omega), ht.cell h.c1 (by simp only; omega), ht.cell h.c2 (by simp only; omega)⟩
theorem PAt.below {b : Nat} {w w' : World} {q s : Int} {a : Option Addr} {n c : Nat} (h : PAt w b q s a n c) (hb : Below w.heap.size w w') : PAt w' b q s a n c :=
  h.turned (lo := 0) (hi := 0) (Turned.ofBelow hb) (.inr (Nat.zero_le _))

/-- Behind the start w0: block ba holds the answer with the bytes zs at a, block bb the one with the bytes ys at b, which lie from lo to below hi and nothing else does that the law reads. -/
structure PPair (w0 : World) (q s : Int) (zs ys : List Int) (n ba : Nat) (a : Option Addr) (c bb : Nat) (b : Option Addr) (d lo hi : Nat) (w : World) : Prop where
  ra : PAt w ba q s a n c
  rb : PAt w bb q s b n d
  ya : BytesIn w0.heap.size lo w a zs
  yb : BytesIn lo hi w b ys
  sa : ba < lo
  sb : hi ≤ bb
  s0 : w0.heap.size ≤ lo
  sw : bb < w.heap.size
  sl : lo ≤ hi
  g : Below w0.heap.size w0 w

theorem PPair.step {w0 : World} {q s : Int} {zs ys : List Int} {n ba : Nat} {a : Option Addr} {c bb : Nat} {b : Option Addr} {d lo hi : Nat} {w w' : World} (h : PPair w0 q s zs ys n ba a c bb b d lo hi w) (hb : Below w.heap.size w w') :
    PPair w0 q s zs ys n ba a c bb b d lo hi w' := by
  have h1 := h.g.size
  have h2 := hb.size
  exact ⟨h.ra.below hb, h.rb.below hb, h.ya.below hb, h.yb.below hb, h.sa, h.sb, h.s0, Nat.lt_of_lt_of_le h.sw h2, h.sl, h.g.trans (hb.mono h1)⟩

theorem PPair.turn {w0 : World} {q s : Int} {zs ys ys' : List Int} {n ba : Nat} {a : Option Addr} {c bb : Nat} {b : Option Addr} {d lo hi : Nat} {w w' : World} (h : PPair w0 q s zs ys n ba a c bb b d lo hi w) (ht : Turned lo hi w w') (hy : BytesIn lo hi w' b ys') :
    PPair w0 q s zs ys' n ba a c bb b d lo hi w' :=
  ⟨h.ra.turned ht (.inl h.sa), h.rb.turned ht (.inr h.sb), h.ya.turned ht (.inl (Nat.le_refl _)), hy, h.sa, h.sb, h.s0, Nat.lt_of_lt_of_le h.sw ht.size, h.sl, h.g.trans (ht.toBelow h.g.size h.s0)⟩

end Go.Proofs.YtcjkjenebnodbaaDoor.Dr

/-
  The contracts of the methods of a page that read it: slots, low, spanOf, and those of a span.
-/
namespace Go.Proofs.YtcjkjenebnodbaaDoor.Dr
open Go.RowKit

/-- The byte at place i. -/
def byt (zs : List Int) (i : Nat) : Int := zs.getD i 0
/-- 64 bytes. -/
structure IsPg (zs : List Int) : Prop where
  len : zs.length = 64
  bd : ∀ z ∈ zs, 0 ≤ z ∧ z ≤ 255

theorem byt_bd {zs : List Int} (h : ∀ z ∈ zs, 0 ≤ z ∧ z ≤ 255) (i : Nat) : 0 ≤ byt zs i ∧ byt zs i ≤ 255 := by
  unfold byt
  rw [List.getD_eq_getElem?_getD]
  cases hi : zs[i]? with
  | none => simp
  | some z => exact h z (List.mem_of_getElem? hi)
/-- The byte at place i, as a number of places. -/
def nb (zs : List Int) (i : Nat) : Nat := (byt zs i).toNat
theorem nb_byt {zs : List Int} (h : IsPg zs) (i : Nat) : byt zs i = (nb zs i : Int) := by have := byt_bd h.bd i; unfold nb; omega
theorem nb_lt {zs : List Int} (h : IsPg zs) (i : Nat) : nb zs i ≤ 255 := by have := byt_bd h.bd i; unfold nb; omega
theorem Arr.at {w : World} {b : Nat} {zs : List Int} (h : Arr w b zs) (i : Nat) (hi : i < 64) : w.cell? ⟨b, i, none⟩ = some (.int .u8 (byt zs i)) := h.cell i hi

/-- What the methods of a page find behind their first region: the page in a block of its own. -/
theorem boxed (zs : List Int) (w : World) (h : IsPg zs) : ∃ X, w.alloc (.cells (pgC zs) 58) = X ∧ Arr X w.heap.size zs ∧ Below w.heap.size w X := ⟨_, rfl, arr_new w zs h.len, (Below.refl _ _).alloc (Nat.le_refl _) _⟩

end Go.Proofs.YtcjkjenebnodbaaDoor.Dr

/-
  The contracts of free, firstEmpty and endsEmpty.
-/
namespace Go.Proofs.YtcjkjenebnodbaaDoor.Dr
open Go.RowKit

/-- How long the cells of the first k slots are together. -/
def lens (zs : List Int) : Nat → Nat
  | 0 => 0
  | k + 1 => lens zs k + nb zs (3 + 2 * k)

theorem lens_le (zs : List Int) : ∀ k m, lens zs k ≤ lens zs (k + m)
  | _, 0 => Nat.le_refl _
  | k, m + 1 => by rw [← Nat.add_assoc, lens]; have := lens_le zs k m; omega

/-- Is slot s empty? -/
def empB (zs : List Int) (s : Nat) : Bool := nb zs (2 + 2 * s) == 0 && nb zs (3 + 2 * s) == 0
/-- The first empty slot from k on, of m; k + m, where there is none. -/
def firstE (zs : List Int) (k : Nat) : Nat → Nat
  | 0 => k
  | m + 1 => if empB zs k = true then k else firstE zs (k + 1) m

end Go.Proofs.YtcjkjenebnodbaaDoor.Dr

/-
  The contracts of endsEmpty and isSpanWrong.
-/
namespace Go.Proofs.YtcjkjenebnodbaaDoor.Dr
open Go.RowKit
set_option linter.unusedVariables false

/-- Has the page slots, and is the last one empty? -/
def endB (zs : List Int) : Bool := decide (0 < nb zs 0) && empB zs (nb zs 0 - 1)

/-- Is what a slot tells no place of a cell? -/
def wrongB (low p l : Nat) : Bool := !(p == 0 && l == 0) && (p == 0 || l == 0 || decide (p < low) || decide (64 < p + l))

/-- What isSpanWrong knows while it asks. -/
def SpW (w : World) (zs : List Int) (x p l : Nat) (W : World) : Prop :=
  W.cell? ⟨x, 0, none⟩ = some (.int .u64 p) ∧ W.cell? ⟨x, 1, none⟩ = some (.int .u64 l) ∧ Arr W w.heap.size zs ∧ Below w.heap.size w W
theorem SpW.keep {w : World} {zs : List Int} {x p l : Nat} {W V : World} (h : SpW w zs x p l W) (hb : Below W.heap.size W V) : SpW w zs x p l V :=
  ⟨(hb.cell (p := ⟨x, 0, none⟩) (World.block_lt_of_cell? W _ h.1)).trans h.1, (hb.cell (p := ⟨x, 1, none⟩) (World.block_lt_of_cell? W _ h.2.1)).trans h.2.1, h.2.2.1.grown hb, h.2.2.2.trans (hb.mono h.2.2.2.size)⟩

end Go.Proofs.YtcjkjenebnodbaaDoor.Dr
