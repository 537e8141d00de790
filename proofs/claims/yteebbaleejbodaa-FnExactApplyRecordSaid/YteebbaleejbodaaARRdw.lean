/-
  What came in, opened: a slice of rows.
-/
import Derived.Test.YteebbaleejbodaaARRwg
import Derived.Deep.SlicePairs
import Derived.OpenShut
import Derived.ProofKit
import Derived.Test.YteebbaleejbodaaARBy
import Derived.Deep.MidRow
import Derived.Deep.Cut

namespace Go.Proofs.Yteebbaleejbodaa
open Go.ChangeShapes Go.WideShapes Go.RowKit
set_option linter.unusedVariables false

structure IsRows (w : World) (a : Option Addr) (len : Nat) (rs : List Rw) : Prop where
  rd : Rs rwE 4 w a rs
  eq : rs.length = len
  ln : len ≤ 9223372036854775807
  sz : ∀ r ∈ rs, r.s.size ≤ maxLen
  wf : ∀ r ∈ rs, (Lit.int .i64 r.t).wf = true ∧ (Lit.int .i64 r.k).wf = true ∧ (Lit.int .i64 r.v).wf = true

instance : Inhabited Rw := ⟨⟨0, 0, 0, ⟨#[]⟩⟩⟩
theorem four {α : Type} (xs : List α) (h : xs.length = 4) : ∃ a b c d, xs = [a, b, c, d] := by
  match xs, h with
  | [a, b, c, d], _ => exact ⟨a, b, c, d, rfl⟩

theorem list_of_fun {α : Type} (q : Nat → α) (n : Nat) {i : Nat} {r : α} (h : ((List.range n).map q)[i]? = some r) : i < n ∧ r = q i := by
  rw [List.getElem?_map] at h
  cases e : (List.range n)[i]? with
  | none => rw [e] at h; simp at h
  | some m =>
    rw [e] at h
    simp at h
    obtain ⟨hl, hm⟩ := List.getElem?_eq_some_iff.1 e
    simp at hl hm
    exact ⟨hl, by rw [← h, ← hm]⟩

theorem open_rows {H : Type} {enc : TypeId × Value → H} {W : World} {base : Nat} {held : Bool} {fuel : Nat} {a : Option Addr} {len cap : Nat} {x : DataW H × List MemPlace}
    (h : DataW.trod enc Try.prog W base (fun _ => true) held fuel 22 [.slice a len cap] = some x) : ∃ rs, IsRows W a len rs := by
  have hml : maxLen = 9223372036854775807 := by decide
  rcases Go.Deep.open_slice Try.underlying22 h with ⟨hcs, _⟩ | ⟨y, l, c, m, n, Dd, Pl, hcs, hb, hl, hm, hmm, _, hx⟩
  · simp only [List.cons.injEq, Value.slice.injEq, and_true] at hcs
    obtain ⟨rfl, rfl, rfl⟩ := hcs
    exact ⟨[], .inl rfl, rfl, by omega, fun r hr => by simp at hr, fun r hr => by simp at hr⟩
  · simp only [List.cons.injEq, Value.slice.injEq, and_true] at hcs
    obtain ⟨rfl, rfl, rfl⟩ := hcs
    simp only [if_true] at hmm
    subst hmm
    have ce : Try.prog.cellsOf 75 = 4 := by kernel_rfl
    have each : ∀ i, i < len → ∃ q : Rw, W.cell? (y.add (i * 4)) = some (.int .i64 q.t) ∧ W.cell? (y.add (i * 4 + 1)) = some (.int .i64 q.k) ∧ W.cell? (y.add (i * 4 + 2)) = some (.int .i64 q.v) ∧ W.cell? (y.add (i * 4 + 3)) = some (.string q.s) ∧ q.s.size ≤ maxLen ∧ (Lit.int .i64 q.t).wf = true ∧ (Lit.int .i64 q.k).wf = true ∧ (Lit.int .i64 q.v).wf = true := by
      intro i hi
      obtain ⟨cs', h1, h2⟩ := hx i (by omega)
      rw [ce] at h1
      obtain ⟨_, hlen, hcell⟩ := World.cells?_some h1
      obtain ⟨xs, k, hk, hxy, _, hxl, hf⟩ := DataW.trod_struct Try.underlying75 h2
      have hx4 : xs.length = 4 := hxl
      clear hxl
      obtain ⟨y0, y1, y2, y3, rfl⟩ := four xs hx4
      obtain ⟨v0, v1, v2, v3, rfl⟩ := four cs' hlen
      have g0 := hf 0 _ rfl
      have g1 := hf 1 _ rfl
      have g2 := hf 2 _ rfl
      have g3 := hf 3 _ rfl
      have c2 : Try.prog.cellsOf 2 = 1 := by kernel_rfl
      have c9 : Try.prog.cellsOf 9 = 1 := by kernel_rfl
      simp [c2, c9] at g0 g1 g2 g3
      obtain ⟨t0, e0, _, w0⟩ := DataW.trod_int Try.underlying2 g0
      obtain ⟨t1, e1, _, w1⟩ := DataW.trod_int Try.underlying2 g1
      obtain ⟨t2, e2, _, w2⟩ := DataW.trod_int Try.underlying2 g2
      obtain ⟨s, e3, _, hs⟩ := DataW.trod_string Try.underlying9 g3
      simp only [List.cons.injEq, and_true] at e0 e1 e2 e3
      subst e0 e1 e2 e3
      have k0 := hcell 0 (by omega)
      have k1 := hcell 1 (by omega)
      have k2 := hcell 2 (by omega)
      have k3 := hcell 3 (by omega)
      rw [Go.Deep.add_add] at k0 k1 k2 k3
      exact ⟨⟨t0, t1, t2, s⟩, by simpa using k0, by simpa using k1, by simpa using k2, by simpa using k3, hs, w0, w1, w2⟩
    obtain ⟨q, hq⟩ := Go.Deep.choose_lt each
    refine ⟨(List.range len).map q, ?_, by simp, by omega, ?_, ?_⟩
    · by_cases h0 : len = 0
      · subst h0; exact .inl rfl
      · obtain ⟨b, off, spot⟩ := y
        have hc0 := (hq 0 (by omega)).1
        have hspot : spot = none := by simpa [Addr.add] using World.cell?_spot hc0
        subst hspot
        have ea : ∀ i, (⟨b, off, none⟩ : Addr).add i = ⟨b, off + i, none⟩ := by intro i; unfold Addr.add; split <;> simp_all
        refine .inr ⟨b, off, rfl, fun i r hr => ?_⟩
        obtain ⟨hi, rfl⟩ := list_of_fun q len hr
        obtain ⟨q0, q1, q2, q3, _⟩ := hq i hi
        rw [ea] at q0 q1 q2 q3
        refine RowC.cells (o := off + i * 4) ⟨q0, ?_, ?_, ?_⟩
        · rw [Nat.add_assoc]; exact q1
        · rw [Nat.add_assoc]; exact q2
        · rw [Nat.add_assoc]; exact q3
    · intro r hr
      obtain ⟨i, hi, rfl⟩ := List.mem_map.1 hr
      exact (hq i (by simpa using hi)).2.2.2.2.1
    · intro r hr
      obtain ⟨i, hi, rfl⟩ := List.mem_map.1 hr
      exact (hq i (by simpa using hi)).2.2.2.2.2

end Go.Proofs.Yteebbaleejbodaa

/-
  A page as an array: a block of 64 bytes.
-/
namespace Go.Proofs.Yteebbaleejbodaa
open Go.RowKit

/-- The cells of a page. -/
def pgC (zs : List Int) : Array Value := (zs.map (Value.int .u8)).toArray
/-- Block b is an array of 64 bytes that holds zs. -/
structure Arr (w : World) (b : Nat) (zs : List Int) : Prop where
  len : zs.length = 64
  row : w.heap[b]? = some (.cells (pgC zs) 239)

theorem pgC_size (zs : List Int) : (pgC zs).size = zs.length := by simp [pgC]
theorem pgC_at (zs : List Int) (i : Nat) (h : i < zs.length) : (pgC zs)[i]? = some (.int .u8 (zs.getD i 0)) := by
  simp [pgC, List.getD, List.getElem?_eq_getElem h]

theorem info57 : (Try.prog.info? 239).map (·.size) = some 64 := by kernel_rfl

variable {w w' : World} {b : Nat} {zs : List Int}

theorem Arr.lt (h : Arr w b zs) : b < w.heap.size := (Array.getElem?_eq_some_iff.1 h.row).1
theorem Arr.cell (h : Arr w b zs) (i : Nat) (hi : i < 64) : w.cell? ⟨b, i, none⟩ = some (.int .u8 (zs.getD i 0)) := by
  rw [cell_of_row w b i _ _ _ h.row, pgC_at zs i (by rw [h.len]; exact hi)]
theorem Arr.frozen (h : Arr w b zs) (i : Nat) : w.frozen? ⟨b, i, none⟩ = false := by simp [World.frozen?, h.row]
theorem Arr.below {B : Nat} (h : Arr w b zs) (hb : Below B w w') (hlt : b < B) : Arr w' b zs := ⟨h.len, (hb.block b hlt).trans h.row⟩
theorem Arr.grown (h : Arr w b zs) (hb : Below w.heap.size w w') : Arr w' b zs := h.below hb h.lt
theorem Arr.turned {lo hi : Nat} (h : Arr w b zs) (ht : Turned lo hi w w') (hn : b < lo ∨ hi ≤ b) : Arr w' b zs := ⟨h.len, (ht.block b h.lt (by omega)).trans h.row⟩
theorem Arr.other (h : Arr w b zs) (p : Addr) (v : Value) (hn : p.block ≠ b) : Arr (w.setCell p v) b zs := ⟨h.len, by rw [Below.heap_setCell _ _ _ _ (fun e => hn e.symm)]; exact h.row⟩
theorem Arr.set (h : Arr w b zs) (i : Nat) (v : Int) : Arr (w.setCell ⟨b, i, none⟩ (.int .u8 v)) b (zs.set i v) := by
  refine ⟨by rw [List.length_set]; exact h.len, ?_⟩
  have hv : w.heap[b]'h.lt = .cells (pgC zs) 239 := (Array.getElem?_eq_some_iff.1 h.row).2
  unfold World.setCell
  rw [Array.getElem?_eq_getElem (by simpa using h.lt), Array.getElem_modify]
  simp [hv, pgC]
theorem Arr.bytes (h : Arr w b zs) {lo hi : Nat} (h1 : lo ≤ b) (h2 : b < hi) : BytesIn lo hi w (some ⟨b, 0, none⟩) zs :=
  .inr ⟨b, 0, rfl, h1, h2, fun i hi => by rw [Nat.zero_add]; exact h.cell i (by rw [← h.len]; exact hi), fun i _ => by rw [Nat.zero_add]; exact h.frozen i⟩
theorem Arr.alloc (h : Arr w b zs) (o : Obj) : Arr (w.alloc o) b zs := ⟨h.len, (heap_alloc_old w o h.lt).trans h.row⟩
theorem arr_new (w : World) (zs : List Int) (h : zs.length = 64) : Arr (w.alloc (.cells (pgC zs) 239)) w.heap.size zs := ⟨h, heap_alloc_new w _⟩

end Go.Proofs.Yteebbaleejbodaa

/-
  The contracts of NewPage and of the model's: a new page, all its bytes fill but the first two.
-/
namespace Go.Proofs.Yteebbaleejbodaa
open Go.RowKit

def newBytes (f : Int) : List Int := 0 :: 64 :: List.replicate 62 f
/-- The first k bytes are f, the others 0. -/
def filled (f : Int) (k : Nat) : List Int := List.replicate k f ++ List.replicate (64 - k) 0

theorem filled_set (f : Int) (k : Nat) (h : k < 64) : (filled f k).set k f = filled f (k + 1) := by
  unfold filled
  rw [List.set_append_right _ _ (by simp), List.length_replicate, Nat.sub_self, show 64 - k = (63 - k) + 1 by omega, List.replicate_succ, List.set_cons_zero, show 64 - (k + 1) = 63 - k by omega, List.replicate_succ']
  simp

theorem filled_new (f : Int) : ((filled f 64).set 0 0).set 1 64 = newBytes f := rfl

/-- Block b holds the three cells of a PageResult, and may be written. -/
structure PRes (w : World) (b : Nat) (q s : Int) (v : Value) : Prop where
  c0 : w.cell? ⟨b, 0, none⟩ = some (.int .i64 q)
  c1 : w.cell? ⟨b, 1, none⟩ = some (.int .i64 s)
  c2 : w.cell? ⟨b, 2, none⟩ = some v
  f0 : w.frozen? ⟨b, 0, none⟩ = false
  f1 : w.frozen? ⟨b, 1, none⟩ = false
  f2 : w.frozen? ⟨b, 2, none⟩ = false

theorem PRes.below {B b : Nat} {w w' : World} {q s : Int} {v : Value} (h : PRes w b q s v) (hb : Below B w w') (hlt : b < B) : PRes w' b q s v :=
  ⟨(hb.cell (p := ⟨b, 0, none⟩) hlt).trans h.c0, (hb.cell (p := ⟨b, 1, none⟩) hlt).trans h.c1, (hb.cell (p := ⟨b, 2, none⟩) hlt).trans h.c2, (hb.frozen (p := ⟨b, 0, none⟩) hlt).trans h.f0, (hb.frozen (p := ⟨b, 1, none⟩) hlt).trans h.f1, (hb.frozen (p := ⟨b, 2, none⟩) hlt).trans h.f2⟩
theorem PRes.lt {b : Nat} {w : World} {q s : Int} {v : Value} (h : PRes w b q s v) : b < w.heap.size := World.block_lt_of_cell? w _ h.c0
theorem PRes.other {b : Nat} {w : World} {q s : Int} {v : Value} (h : PRes w b q s v) (p : Addr) (u : Value) (hn : p.block ≠ b) : PRes (w.setCell p u) b q s v := by
  have hd : ∀ i, (w.setCell p u).cell? ⟨b, i, none⟩ = w.cell? ⟨b, i, none⟩ := fun i => World.cell?_setCell_other _ _ _ _ (fun e => hn (by rw [e]))
  exact ⟨(hd 0).trans h.c0, (hd 1).trans h.c1, (hd 2).trans h.c2, by rw [World.frozen?_setCell]; exact h.f0, by rw [World.frozen?_setCell]; exact h.f1, by rw [World.frozen?_setCell]; exact h.f2⟩

theorem BytesIn.set {lo up : Nat} {w : World} {b off : Nat} {zs : List Int} (h : BytesIn lo up w (some ⟨b, off, none⟩) zs) (i : Nat) (hi : i < zs.length) (v : Int) : BytesIn lo up (w.setCell ⟨b, off + i, none⟩ (.int .u8 v)) (some ⟨b, off, none⟩) (zs.set i v) := by
  rcases h with h | ⟨b', off', ha, h1, h2, hc, hf⟩
  · rw [h] at hi; simp at hi
  · simp only [Option.some.injEq, Addr.mk.injEq, and_true] at ha
    obtain ⟨rfl, rfl⟩ := ha
    refine .inr ⟨b, off, rfl, h1, h2, fun j hj => ?_, fun j hj => ?_⟩
    · rw [List.length_set] at hj
      by_cases e : i = j
      · subst e
        rw [World.cell?_setCell_same _ _ _ (hc i hj)]
        simp [List.getD, hj]
      · rw [World.cell?_setCell_other _ _ _ _ (fun h => e (by have := congrArg Addr.off h; simp at this; omega)), hc j hj]
        simp [List.getD, e]
    · rw [World.frozen?_setCell]
      exact hf j (by rw [List.length_set] at hj; exact hj)
theorem BytesIn.at {lo up : Nat} {w : World} {b off : Nat} {zs : List Int} (h : BytesIn lo up w (some ⟨b, off, none⟩) zs) (i : Nat) (hi : i < zs.length) : w.cell? ⟨b, off + i, none⟩ = some (.int .u8 (zs.getD i 0)) ∧ w.frozen? ⟨b, off + i, none⟩ = false := by
  rcases h with h | ⟨b', off', ha, h1, h2, hc, hf⟩
  · rw [h] at hi; simp at hi
  · simp only [Option.some.injEq, Addr.mk.injEq, and_true] at ha
    obtain ⟨rfl, rfl⟩ := ha
    exact ⟨hc i hi, hf i hi⟩

theorem filled_zero (f : Int) (i : Nat) : (filled f 0).getD i 0 = 0 := by
  show (List.replicate 64 (0 : Int)).getD i 0 = 0
  rw [List.getD_eq_getElem?_getD, List.getElem?_replicate]
  split <;> rfl
theorem filled_length (f : Int) (k : Nat) (h : k ≤ 64) : (filled f k).length = 64 := by simp [filled]; omega

end Go.Proofs.Yteebbaleejbodaa

/-
  What compares, marks and looks through a PageResult, and what a law knows of two such answers meanwhile.
-/
namespace Go.Proofs.Yteebbaleejbodaa
open Go.RowKit

/-- Block b holds the three cells of a PageResult. -/
structure PAt (w : World) (b : Nat) (q s : Int) (a : Option Addr) (n c : Nat) : Prop where
  c0 : w.cell? ⟨b, 0, none⟩ = some (.int .i64 q)
  c1 : w.cell? ⟨b, 1, none⟩ = some (.int .i64 s)
  c2 : w.cell? ⟨b, 2, none⟩ = some (.slice a n c)

theorem PAt.turned {lo hi b : Nat} {w w' : World} {q s : Int} {a : Option Addr} {n c : Nat} (h : PAt w b q s a n c) (ht : Turned lo hi w w') (hn : b < lo ∨ hi ≤ b) : PAt w' b q s a n c :=
  ⟨ht.cell h.c0 (by simp only; omega), ht.cell h.c1 (by simp only; omega), ht.cell h.c2 (by simp only; omega)⟩
theorem PAt.below {b : Nat} {w w' : World} {q s : Int} {a : Option Addr} {n c : Nat} (h : PAt w b q s a n c) (hb : Below w.heap.size w w') : PAt w' b q s a n c :=
  h.turned (lo := 0) (hi := 0) (Turned.ofBelow hb) (.inr (Nat.zero_le _))

/-- Behind the start w0: block ba holds the answer with the bytes zs at a, block bb the one with the bytes ys at b, which lie from lo to below hi and nothing else does that the law reads. -/
structure PPair (w0 : World) (q s : Int) (zs ys : List Int) (n ba : Nat) (a : Option Addr) (c bb : Nat) (b : Option Addr) (d lo hi : Nat) (w : World) : Prop where
  ra : PAt w ba q s a n c
  rb : PAt w bb q s b n d
  ya : BytesIn w0.heap.size lo w a zs
  yb : BytesIn lo hi w b ys
  sa : ba < lo
  sb : hi ≤ bb
  s0 : w0.heap.size ≤ lo
  sw : bb < w.heap.size
  sl : lo ≤ hi
  g : Below w0.heap.size w0 w

theorem PPair.step {w0 : World} {q s : Int} {zs ys : List Int} {n ba : Nat} {a : Option Addr} {c bb : Nat} {b : Option Addr} {d lo hi : Nat} {w w' : World} (h : PPair w0 q s zs ys n ba a c bb b d lo hi w) (hb : Below w.heap.size w w') :
    PPair w0 q s zs ys n ba a c bb b d lo hi w' := by
  have h1 := h.g.size
  have h2 := hb.size
  exact ⟨h.ra.below hb, h.rb.below hb, h.ya.below hb, h.yb.below hb, h.sa, h.sb, h.s0, Nat.lt_of_lt_of_le h.sw h2, h.sl, h.g.trans (hb.mono h1)⟩

theorem PPair.turn {w0 : World} {q s : Int} {zs ys ys' : List Int} {n ba : Nat} {a : Option Addr} {c bb : Nat} {b : Option Addr} {d lo hi : Nat} {w w' : World} (h : PPair w0 q s zs ys n ba a c bb b d lo hi w) (ht : Turned lo hi w w') (hy : BytesIn lo hi w' b ys') :
    PPair w0 q s zs ys' n ba a c bb b d lo hi w' :=
  ⟨h.ra.turned ht (.inl h.sa), h.rb.turned ht (.inr h.sb), h.ya.turned ht (.inl (Nat.le_refl _)), hy, h.sa, h.sb, h.s0, Nat.lt_of_lt_of_le h.sw ht.size, h.sl, h.g.trans (ht.toBelow h.g.size h.s0)⟩

end Go.Proofs.Yteebbaleejbodaa

/-
  The contracts of the methods of a page that read it: slots, low, spanOf, and those of a span.
-/
namespace Go.Proofs.Yteebbaleejbodaa
open Go.RowKit

/-- The byte at place i. -/
def byt (zs : List Int) (i : Nat) : Int := zs.getD i 0
/-- 64 bytes. -/
structure IsPg (zs : List Int) : Prop where
  len : zs.length = 64
  bd : ∀ z ∈ zs, 0 ≤ z ∧ z ≤ 255

theorem byt_bd {zs : List Int} (h : ∀ z ∈ zs, 0 ≤ z ∧ z ≤ 255) (i : Nat) : 0 ≤ byt zs i ∧ byt zs i ≤ 255 := by
  unfold byt
  rw [List.getD_eq_getElem?_getD]
  cases hi : zs[i]? with
  | none => simp
  | some z => exact h z (List.mem_of_getElem? hi)
/-- The byte at place i, as a number of places. -/
def nb (zs : List Int) (i : Nat) : Nat := (byt zs i).toNat
theorem nb_byt {zs : List Int} (h : IsPg zs) (i : Nat) : byt zs i = (nb zs i : Int) := by have := byt_bd h.bd i; unfold nb; omega
theorem nb_lt {zs : List Int} (h : IsPg zs) (i : Nat) : nb zs i ≤ 255 := by have := byt_bd h.bd i; unfold nb; omega
theorem Arr.at {w : World} {b : Nat} {zs : List Int} (h : Arr w b zs) (i : Nat) (hi : i < 64) : w.cell? ⟨b, i, none⟩ = some (.int .u8 (byt zs i)) := h.cell i hi

/-- What the methods of a page find behind their first region: the page in a block of its own. -/
theorem boxed (zs : List Int) (w : World) (h : IsPg zs) : ∃ X, w.alloc (.cells (pgC zs) 239) = X ∧ Arr X w.heap.size zs ∧ Below w.heap.size w X := ⟨_, rfl, arr_new w zs h.len, (Below.refl _ _).alloc (Nat.le_refl _) _⟩

set_option maxHeartbeats 400000 in
theorem slots_any (zs : List Int) (w : World) (h : IsPg zs) :
    Calls Try.prog 187 #[.agg (pgC zs)] w fun e w' => e = .returned (.int .u64 (nb zs 0)) ∧ Below w.heap.size w w' := by
  obtain ⟨X, hX, hA, g⟩ := boxed zs w h
  have c0 := hA.at 0 (by omega)
  have b1 := nb_lt h 0
  rw [nb_byt h] at c0
  go_enter Try.func187, Try.ntmps187
  go_wp2_with fail
  go_ret
  exact ⟨rfl, g⟩

set_option maxHeartbeats 400000 in
theorem low_any (zs : List Int) (w : World) (h : IsPg zs) :
    Calls Try.prog 212 #[.agg (pgC zs)] w fun e w' => e = .returned (.int .u64 (nb zs 1)) ∧ Below w.heap.size w w' := by
  obtain ⟨X, hX, hA, g⟩ := boxed zs w h
  have c0 := hA.at 1 (by omega)
  have b1 := nb_lt h 1
  rw [nb_byt h] at c0
  go_enter Try.func212, Try.ntmps212
  go_wp2_with fail
  go_ret
  exact ⟨rfl, g⟩

set_option maxHeartbeats 400000 in
theorem dirEnd_any (s : Nat) (w : World) (hs : s ≤ 1000) :
    Calls Try.prog 204 #[.int .u64 s] w fun e w' => e = .returned (.int .u64 (2 + 2 * s : Nat)) ∧ w' = w := by
  go_enter Try.func204, Try.ntmps204
  go_wp2_with fail
  go_ret
  exact ⟨by simp, rfl⟩

set_option maxHeartbeats 400000 in
theorem spanEnd_any (p l : Nat) (w : World) (h1 : p ≤ 255) (h3 : l ≤ 255) :
    Calls Try.prog 191 #[.agg #[.int .u64 p, .int .u64 l]] w fun e w' => e = .returned (.int .u64 (p + l : Nat)) ∧ Below w.heap.size w w' := by
  go_enter Try.func191, Try.ntmps191
  go_wp2_with fail
  go_ret
  exact ⟨by simp, by go_grown⟩

set_option maxHeartbeats 400000 in
theorem isEmpty_any (p l : Nat) (w : World) :
    Calls Try.prog 189 #[.agg #[.int .u64 p, .int .u64 l]] w fun e w' => e = .returned (.bool (p == 0 && l == 0)) ∧ Below w.heap.size w w' := by
  by_cases hp : p = 0
  · by_cases hl : l = 0
    · subst hp hl
      go_enter Try.func189, Try.ntmps189
      go_wp2_with fail
      go_ret
      exact ⟨rfl, by go_grown⟩
    · subst hp
      have e : (0 == 0 && l == 0) = false := by simp [hl]
      rw [e]
      go_enter Try.func189, Try.ntmps189
      go_wp2_with fail
      go_ret
      exact ⟨rfl, by go_grown⟩
  · have e : (p == 0 && l == 0) = false := by simp [hp]
    rw [e]
    go_enter Try.func189, Try.ntmps189
    go_wp2_with fail
    go_ret
    exact ⟨rfl, by go_grown⟩

set_option maxHeartbeats 400000 in
theorem spanOf_any (zs : List Int) (s : Nat) (w : World) (h : IsPg zs) (hs : s < 31) :
    Calls Try.prog 188 #[.agg (pgC zs), .int .u64 s] w fun e w' => e = .returned (.agg #[.int .u64 (nb zs (2 + 2 * s)), .int .u64 (nb zs (3 + 2 * s))]) ∧ Below w.heap.size w w' := by
  obtain ⟨X, hX, hA, g⟩ := boxed zs w h
  obtain ⟨Y, hY⟩ : ∃ Y, X.alloc (.cells #[.int .u64 0, .int .u64 0] 270) = Y := ⟨_, rfl⟩
  have hA' : Arr Y w.heap.size zs := by rw [← hY]; exact hA.alloc _
  have g' : Below w.heap.size w Y := by rw [← hY]; exact g.alloc g.size _
  have e0 : Y.cell? ⟨X.heap.size, 0, none⟩ = some (.int .u64 0) := by rw [← hY]; simp [go_sem]
  have e1 : Y.cell? ⟨X.heap.size, 1, none⟩ = some (.int .u64 0) := by rw [← hY]; simp [go_sem]
  have f0 : Y.frozen? ⟨X.heap.size, 0, none⟩ = false := by rw [← hY]; simp [go_sem]
  have f1 : Y.frozen? ⟨X.heap.size, 1, none⟩ = false := by rw [← hY]; simp [go_sem]
  rw [show 3 + 2 * s = 2 + 2 * s + 1 by omega]
  obtain ⟨m, hm⟩ : ∃ m, m = 2 + 2 * s := ⟨_, rfl⟩
  have HM : Hid (m = 2 + 2 * s) := hm
  have hm64 : m + 1 < 64 := by omega
  rw [← hm]
  clear hm
  have c0 := hA'.at m (by omega)
  have c1 := hA'.at (m + 1) (by omega)
  rw [nb_byt h] at c0 c1
  have b1 := nb_lt h m
  have b3 := nb_lt h (m + 1)
  obtain ⟨p, hp⟩ : ∃ p, p = nb zs m := ⟨_, rfl⟩
  obtain ⟨l, hl⟩ : ∃ l, l = nb zs (m + 1) := ⟨_, rfl⟩
  rw [← hp] at c0 b1 ⊢
  rw [← hl] at c1 b3 ⊢
  clear hp hl
  have hlt : w.heap.size < X.heap.size := hA.lt
  have hne : ¬ (w.heap.size = X.heap.size) := by omega
  have i1 : (m : Int) < 64 := by omega
  have i2 : (m : Int) + 1 < 64 := by omega
  clear hA hA' g
  go_enter Try.func188, Try.ntmps188
  go_wp2_with fail
  refine (dirEnd_any s _ (by omega)).mono ?_
  rintro e w' ⟨rfl, hw⟩
  subst hw
  rw [← HM.out]
  clear hX hY
  go_wp2_with fail
  go_region
  go_wp2_with fail
  refine bodyPost_ret (v := .agg #[.int .u64 p, .int .u64 l]) (by simp [results, Try.results188, go_sem, e0, e1]) rfl ?_
  exact ⟨rfl, by go_grown⟩

end Go.Proofs.Yteebbaleejbodaa

/-
  The contracts of free, firstEmpty and endsEmpty.
-/
namespace Go.Proofs.Yteebbaleejbodaa
open Go.RowKit

/-- A whole page is read. -/
theorem wpList_loadPg {ops : Array Oper} {rest : List Oper} {o : Oper} {a : Act} {w : World} {Q : Exit → Act → World → Prop} (hgd : o.guard = none) (x : Operand) (ho : o.op = .load 239 x)
    (g : Nat) (hx : a.eval x = .pointer (some ⟨g, 0, none⟩)) (zs : List Int) (hA : Arr w g zs)
    (h : wpList Try.prog ops Q rest (a.put o.dst (.agg (pgC zs))) w) : wpList Try.prog ops Q (o :: rest) a w :=
  wpList_load_row hgd 239 x ho g hx 239 (pgC zs) (0, 0) _ hA.row Try.underlying239 rfl (by rw [pgC_size, hA.len]; exact info57) h

/-- How long the cells of the first k slots are together. -/
def lens (zs : List Int) : Nat → Nat
  | 0 => 0
  | k + 1 => lens zs k + nb zs (3 + 2 * k)

theorem lens_le (zs : List Int) : ∀ k m, lens zs k ≤ lens zs (k + m)
  | _, 0 => Nat.le_refl _
  | k, m + 1 => by rw [← Nat.add_assoc, lens]; have := lens_le zs k m; omega

/-- Is slot s empty? -/
def empB (zs : List Int) (s : Nat) : Bool := nb zs (2 + 2 * s) == 0 && nb zs (3 + 2 * s) == 0
/-- The first empty slot from k on, of m; k + m, where there is none. -/
def firstE (zs : List Int) (k : Nat) : Nat → Nat
  | 0 => k
  | m + 1 => if empB zs k = true then k else firstE zs (k + 1) m

end Go.Proofs.Yteebbaleejbodaa
