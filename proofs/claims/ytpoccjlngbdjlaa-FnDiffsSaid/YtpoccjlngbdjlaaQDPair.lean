/-
  What compares, marks and looks through a PageResult, and what a law knows of two such answers meanwhile.
-/
import Derived.Test.YtpoccjlngbdjlaaQDNew
import Derived.Deep.Cut

namespace Go.Proofs.Ytpoccjlngbdjlaa.Dr
open Go.RowKit

/-- Block b holds the three cells of a PageResult. -/
structure PAt (w : World) (b : Nat) (q s : Int) (a : Option Addr) (n c : Nat) : Prop where
  c0 : w.cell? ⟨b, 0, none⟩ = some (.int .i64 q)
  c1 : w.cell? ⟨b, 1, none⟩ = some (.int .i64 s)
  c2 : w.cell? ⟨b, 2, none⟩ = some (.slice a n c)

theorem PAt.turned {lo hi b : Nat} {w w' : World} {q s : Int} {a : Option Addr} {n c : Nat} (h : PAt w b q s a n c) (ht : Turned lo hi w w') (hn : b < lo ∨ hi ≤ b) : PAt w' b q s a n c :=
  ⟨ht.cell h.c0 (by simp only; omega), ht.cell h.c1 (by simp only; omega), ht.cell h.c2 (by simp only; omega)⟩
theorem PAt.below {b : Nat} {w w' : World} {q s : Int} {a : Option Addr} {n c : Nat} (h : PAt w b q s a n c) (hb : Below w.heap.size w w') : PAt w' b q s a n c :=
  h.turned (lo := 0) (hi := 0) (Turned.ofBelow hb) (.inr (Nat.zero_le _))

/-- Behind the start w0: block ba holds the answer with the bytes zs at a, block bb the one with the bytes ys at b, which lie from lo to below hi and nothing else does that the law reads. -/
structure PPair (w0 : World) (q s : Int) (zs ys : List Int) (n ba : Nat) (a : Option Addr) (c bb : Nat) (b : Option Addr) (d lo hi : Nat) (w : World) : Prop where
  ra : PAt w ba q s a n c
  rb : PAt w bb q s b n d
  ya : BytesIn w0.heap.size lo w a zs
  yb : BytesIn lo hi w b ys
  sa : ba < lo
  sb : hi ≤ bb
  s0 : w0.heap.size ≤ lo
  sw : bb < w.heap.size
  sl : lo ≤ hi
  g : Below w0.heap.size w0 w

theorem PPair.step {w0 : World} {q s : Int} {zs ys : List Int} {n ba : Nat} {a : Option Addr} {c bb : Nat} {b : Option Addr} {d lo hi : Nat} {w w' : World} (h : PPair w0 q s zs ys n ba a c bb b d lo hi w) (hb : Below w.heap.size w w') :
    PPair w0 q s zs ys n ba a c bb b d lo hi w' := by
  have h1 := h.g.size
  have h2 := hb.size
  exact ⟨h.ra.below hb, h.rb.below hb, h.ya.below hb, h.yb.below hb, h.sa, h.sb, h.s0, Nat.lt_of_lt_of_le h.sw h2, h.sl, h.g.trans (hb.mono h1)⟩

theorem PPair.turn {w0 : World} {q s : Int} {zs ys ys' : List Int} {n ba : Nat} {a : Option Addr} {c bb : Nat} {b : Option Addr} {d lo hi : Nat} {w w' : World} (h : PPair w0 q s zs ys n ba a c bb b d lo hi w) (ht : Turned lo hi w w') (hy : BytesIn lo hi w' b ys') :
    PPair w0 q s zs ys' n ba a c bb b d lo hi w' :=
  ⟨h.ra.turned ht (.inl h.sa), h.rb.turned ht (.inr h.sb), h.ya.turned ht (.inl (Nat.le_refl _)), hy, h.sa, h.sb, h.s0, Nat.lt_of_lt_of_le h.sw ht.size, h.sl, h.g.trans (ht.toBelow h.g.size h.s0)⟩

end Go.Proofs.Ytpoccjlngbdjlaa.Dr

/-
  The contracts of the methods of a page that read it: slots, low, spanOf, and those of a span.
-/
namespace Go.Proofs.Ytpoccjlngbdjlaa.Dr
open Go.RowKit

/-- The byte at place i. -/
def byt (zs : List Int) (i : Nat) : Int := zs.getD i 0
/-- 64 bytes. -/
structure IsPg (zs : List Int) : Prop where
  len : zs.length = 64
  bd : ∀ z ∈ zs, 0 ≤ z ∧ z ≤ 255

theorem byt_bd {zs : List Int} (h : ∀ z ∈ zs, 0 ≤ z ∧ z ≤ 255) (i : Nat) : 0 ≤ byt zs i ∧ byt zs i ≤ 255 := by
  unfold byt
  rw [List.getD_eq_getElem?_getD]
  cases hi : zs[i]? with
  | none => simp
  | some z => exact h z (List.mem_of_getElem? hi)
/-- The byte at place i, as a number of places. -/
def nb (zs : List Int) (i : Nat) : Nat := (byt zs i).toNat
theorem nb_byt {zs : List Int} (h : IsPg zs) (i : Nat) : byt zs i = (nb zs i : Int) := by have := byt_bd h.bd i; unfold nb; omega
theorem nb_lt {zs : List Int} (h : IsPg zs) (i : Nat) : nb zs i ≤ 255 := by have := byt_bd h.bd i; unfold nb; omega
theorem Arr.at {w : World} {b : Nat} {zs : List Int} (h : Arr w b zs) (i : Nat) (hi : i < 64) : w.cell? ⟨b, i, none⟩ = some (.int .u8 (byt zs i)) := h.cell i hi

/-- What the methods of a page find behind their first region: the page in a block of its own. -/
theorem boxed (zs : List Int) (w : World) (h : IsPg zs) : ∃ X, w.alloc (.cells (pgC zs) 58) = X ∧ Arr X w.heap.size zs ∧ Below w.heap.size w X := ⟨_, rfl, arr_new w zs h.len, (Below.refl _ _).alloc (Nat.le_refl _) _⟩

set_option maxHeartbeats 400000 in
theorem spanEnd_any (p l : Nat) (w : World) (h1 : p ≤ 255) (h3 : l ≤ 255) :
    Calls Try.prog 55 #[.agg #[.int .u64 p, .int .u64 l]] w fun e w' => e = .returned (.int .u64 (p + l : Nat)) ∧ Below w.heap.size w w' := by
  go_enter Try.func55, Try.ntmps55
  go_wp2_with fail
  go_ret
  exact ⟨by simp, by go_grown⟩

end Go.Proofs.Ytpoccjlngbdjlaa.Dr

/-
  The contracts of free, firstEmpty and endsEmpty.
-/
namespace Go.Proofs.Ytpoccjlngbdjlaa.Dr
open Go.RowKit

/-- A whole page is read. -/
theorem wpList_loadPg {ops : Array Oper} {rest : List Oper} {o : Oper} {a : Act} {w : World} {Q : Exit → Act → World → Prop} (hgd : o.guard = none) (x : Operand) (ho : o.op = .load 58 x)
    (g : Nat) (hx : a.eval x = .pointer (some ⟨g, 0, none⟩)) (zs : List Int) (hA : Arr w g zs)
    (h : wpList Try.prog ops Q rest (a.put o.dst (.agg (pgC zs))) w) : wpList Try.prog ops Q (o :: rest) a w :=
  wpList_load_row hgd 58 x ho g hx 58 (pgC zs) (0, 0) _ hA.row Try.underlying58 rfl (by rw [pgC_size, hA.len]; exact info57) h

/-- How long the cells of the first k slots are together. -/
def lens (zs : List Int) : Nat → Nat
  | 0 => 0
  | k + 1 => lens zs k + nb zs (3 + 2 * k)

theorem lens_le (zs : List Int) : ∀ k m, lens zs k ≤ lens zs (k + m)
  | _, 0 => Nat.le_refl _
  | k, m + 1 => by rw [← Nat.add_assoc, lens]; have := lens_le zs k m; omega

/-- Is slot s empty? -/
def empB (zs : List Int) (s : Nat) : Bool := nb zs (2 + 2 * s) == 0 && nb zs (3 + 2 * s) == 0
/-- The first empty slot from k on, of m; k + m, where there is none. -/
def firstE (zs : List Int) (k : Nat) : Nat → Nat
  | 0 => k
  | m + 1 => if empB zs k = true then k else firstE zs (k + 1) m

end Go.Proofs.Ytpoccjlngbdjlaa.Dr

/-
  The contracts of endsEmpty and isSpanWrong.
-/
namespace Go.Proofs.Ytpoccjlngbdjlaa.Dr
open Go.RowKit
set_option linter.unusedVariables false

/-- A whole page is read, where its guard says yes. -/
theorem wpList_loadPgW {ops : Array Oper} {rest : List Oper} {o : Oper} {a : Act} {w : World} {Q : Exit → Act → World → Prop} (hw : Region.wanted o (yielded ops a.tmps) = true) (x : Operand) (ho : o.op = .load 58 x)
    (g : Nat) (hx : a.eval x = .pointer (some ⟨g, 0, none⟩)) (zs : List Int) (hA : Arr w g zs)
    (h : wpList Try.prog ops Q rest (a.put o.dst (.agg (pgC zs))) w) : wpList Try.prog ops Q (o :: rest) a w :=
  BigFrame.wpList_want hw fun _ hK => wp_load_row 58 x ho g hx 58 (pgC zs) (0, 0) _ hA.row Try.underlying58 rfl (by rw [pgC_size, hA.len]; exact info57) (hK _ _ h)

/-- Has the page slots, and is the last one empty? -/
def endB (zs : List Int) : Bool := decide (0 < nb zs 0) && empB zs (nb zs 0 - 1)

/-- Is what a slot tells no place of a cell? -/
def wrongB (low p l : Nat) : Bool := !(p == 0 && l == 0) && (p == 0 || l == 0 || decide (p < low) || decide (64 < p + l))

/-- A whole page is read, in a region that draws its order. -/
theorem yieldsIf_loadPg {ops : Array Oper} {S : World → Prop} {op : Oper} {a : Act} (hw : Region.wanted op (yielded ops a.tmps) = true) (x : Operand) (ho : op.op = .load 58 x)
    (b : Nat) (hx : a.eval x = .pointer (some ⟨b, 0, none⟩)) (zs : List Int) (hS : ∀ w, S w → Arr w b zs) : YieldsIf Try.prog ops S op (.agg (pgC zs)) a :=
  .inl ⟨hw, fun w hw' => by
    unfold execOp
    simp only [ho, hx, Instr.loadAt, Instr.sureAddr, Sem.run_bind, Sem.run_pure, Result.andThen_ok, run_loadVar_row w b 58 58 (pgC zs) (0, 0) _ (hS w hw').row Try.underlying58 rfl (by rw [pgC_size, (hS w hw').len]; exact info57)]⟩

/-- What isSpanWrong knows while it asks. -/
def SpW (w : World) (zs : List Int) (x p l : Nat) (W : World) : Prop :=
  W.cell? ⟨x, 0, none⟩ = some (.int .u64 p) ∧ W.cell? ⟨x, 1, none⟩ = some (.int .u64 l) ∧ Arr W w.heap.size zs ∧ Below w.heap.size w W
theorem SpW.keep {w : World} {zs : List Int} {x p l : Nat} {W V : World} (h : SpW w zs x p l W) (hb : Below W.heap.size W V) : SpW w zs x p l V :=
  ⟨(hb.cell (p := ⟨x, 0, none⟩) (World.block_lt_of_cell? W _ h.1)).trans h.1, (hb.cell (p := ⟨x, 1, none⟩) (World.block_lt_of_cell? W _ h.2.1)).trans h.2.1, h.2.2.1.grown hb, h.2.2.2.trans (hb.mono h.2.2.2.size)⟩

end Go.Proofs.Ytpoccjlngbdjlaa.Dr
