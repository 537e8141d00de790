/-
  The contract of toByteS: new memory that holds the same bytes.
-/
import Derived.Test.YtdgonddimenmdaaGreatQBy
import Derived.Lib.AppendStr
import Derived.Lib.SmallJoins
import Derived.Deep.RegionHeld
import Derived.Deep.WholeRow
import Derived.Deep.MidRow

namespace Go.Proofs.YtdgonddimenmdaaGreat
open Go.RowKit

theorem info5' : (Tryz.prog.info? 5).map (fun i => (i.zero, i.size, i.bytes)) = some (some (.int .u8 0), 1, 1) := by kernel_rfl
theorem info5 : ∃ i, Tryz.prog.info? 5 = some i ∧ i.zero = some (.int .u8 0) ∧ i.size = 1 ∧ i.bytes = 1 := by
  have h := info5'
  cases hi : Tryz.prog.info? 5 with
  | none => rw [hi] at h; simp at h
  | some i => rw [hi] at h; simp at h; exact ⟨i, rfl, h.1, h.2.1, h.2.2⟩

/-- What owns a row of bytes holds them. -/
theorem bytesIn_owns {w : World} {base n g cap : Nat} {e : TypeId} {zs : List Int} (h : w.ownsRow base e 1 (.slice (some ⟨g, 0, none⟩) n cap) n (zs.map (Value.int .u8))) : BytesIn base w.heap.size w (some ⟨g, 0, none⟩) zs := by
  have hl : zs.length = n := by have := h.1; simpa using this
  have hlt := h.lt g (by simp [Value.ownBlock])
  refine .inr ⟨g, 0, rfl, hlt.1, hlt.2, fun i hi => ?_, fun i hi => ?_⟩
  · rw [Nat.zero_add, h.cellAt i (by omega)]
    simp [List.getElem?_eq_getElem hi, List.getD]
  · rw [Nat.zero_add]; exact h.frozenAt i

/-- The slice that begins at a reads as the bytes zs. -/
def Reads (w : World) (a : Option Addr) (zs : List Int) : Prop :=
  zs = [] ∨ ∃ b off, a = some ⟨b, off, none⟩ ∧ ∀ i, i < zs.length → w.cell? ⟨b, off + i, none⟩ = some (.int .u8 (zs.getD i 0))

theorem Reads.below {w w' : World} {a : Option Addr} {zs : List Int} (h : Reads w a zs) {B : Nat} (hb : Below B w w') (hB : w.heap.size ≤ B) : Reads w' a zs := by
  rcases h with h | ⟨b, off, ha, hc⟩
  · exact .inl h
  · exact .inr ⟨b, off, ha, fun i hi => (hb.cell (p := ⟨b, off + i, none⟩) (Nat.lt_of_lt_of_le (World.block_lt_of_cell? w _ (hc i hi)) hB)).trans (hc i hi)⟩

theorem BytesIn.reads {lo hi : Nat} {w : World} {a : Option Addr} {zs : List Int} (h : BytesIn lo hi w a zs) : Reads w a zs := by
  rcases h with h | ⟨b, off, ha, _, _, hc, _⟩
  · exact .inl h
  · exact .inr ⟨b, off, ha, hc⟩

theorem made_zero (n i : Nat) (h : i < n) : (madeCells #[Value.int .u8 0] n).toList[i]? = some (.int .u8 0) := by
  simp [madeCells, h, Nat.mod_one]

end Go.Proofs.YtdgonddimenmdaaGreat

/-
  The contracts of what makes the cell of a row: rowCell and the model's l1Cell.
-/
namespace Go.Proofs.YtdgonddimenmdaaGreat
open Go.RowKit

def cellBytes (f t k v : Int) (s : ByteArray) : List Int := [f, t, k, v / 256, v % 256, s.size] ++ s.data.toList.map fun b => (b.toNat : Int)

theorem and255 (v : Int) (v0 : 0 ≤ v) (v1 : v ≤ 999) : bits BinOp.and IntKind.i64 v 255 = v % 256 := by
  obtain ⟨n, rfl⟩ := Int.eq_ofNat_of_zero_le v0
  have h : ∀ m : Fin 1000, bits BinOp.and IntKind.i64 (m.val : Int) 255 = (m.val : Int) % 256 := by decide +kernel
  exact h ⟨n, by omega⟩

theorem strCells_ints (s : ByteArray) : Lib.strCells s = (s.data.toList.map fun b => (b.toNat : Int)).map (Value.int .u8) := by
  simp [Lib.strCells]

theorem ownsRow_drew {w : World} {base : Nat} {e : TypeId} {size : Nat} {v : Value} {n : Nat} {xs : List Value} (h : w.ownsRow base e size v n xs) : w.drew.ownsRow base e size v n xs := h

theorem bytesRow_cell (w : World) (s : ByteArray) (cap g : Nat) (e : TypeId) (m : Nat × Nat) (hg : g = w.heap.size) (j : Nat) (u : Value) (h : (Lib.strCells s)[j]? = some u) : (w.alloc (.cells (bytesRow s cap) e m)).cell? ((⟨g, 0, none⟩ : Addr).add j) = some u := by
  subst hg
  have hj : j < s.size := by have := (List.getElem?_eq_some_iff.1 h).1; rw [Lib.strCells_length] at this; exact this
  rw [show ((⟨w.heap.size, 0, none⟩ : Addr).add j) = ⟨w.heap.size, j, none⟩ from by unfold Addr.add; split <;> simp_all]
  rw [World.cell?_alloc_mark]
  simp [Lib.strCells] at h
  obtain ⟨x, hx, rfl⟩ := h
  obtain ⟨_, rfl⟩ := Array.getElem?_eq_some_iff.1 hx
  simp [bytesRow, Array.getElem?_append, hj]
set_option maxHeartbeats 1000000 in
theorem l1Cell_any (f t k v : Int) (s : ByteArray) (b : Nat) (w : World) (f0 : 0 ≤ f) (f1 : f ≤ 2) (t0 : 0 ≤ t) (t1 : t ≤ 3) (k0 : 1 ≤ k) (k1 : k ≤ 99) (v0 : 0 ≤ v) (v1 : v ≤ 999) (hs : s.size ≤ 8) (h : RowAt w b t k v s) :
    Calls Tryz.prog 37 #[.int .i64 f, .pointer (some ⟨b, 0, none⟩)] w fun e w' =>
      ∃ g c, e = .returned (.slice (some ⟨g, 0, none⟩) (6 + s.size) c) ∧ Below w.heap.size w w' ∧ BytesIn w.heap.size w'.heap.size w' (some ⟨g, 0, none⟩) (cellBytes f t k v s) := by
  obtain ⟨i0, hi, hz0, hz1, hz2⟩ := info5
  obtain ⟨c0, c1, c2, c3⟩ := h
  have hlt : b < w.heap.size := World.block_lt_of_cell? w _ c0
  have kc := fun (w : World) (s : ByteArray) => run_bytes_of_string (P := Tryz.prog) w 9 22 5 s Tryz.underlying9 Tryz.underlying22 Tryz.underlying5
  go_enter Tryz.func37, Tryz.ntmps37
  go_wp2_with fail
  go_region_held (fun w' => w'.cell? ⟨b, 0, none⟩ = some (.int .i64 t) ∧ w'.cell? ⟨b, 1, none⟩ = some (.int .i64 k) ∧ w'.cell? ⟨b, 2, none⟩ = some (.int .i64 v) ∧ w'.cell? ⟨b, 3, none⟩ = some (.string s)) (go_keep) (fail)
  go_wp2_with (at_builtin; go_must (refine wpList_append_own _ rfl _ _ 22 rfl w.heap.size 5 i0 (.int .u8 0) 1 1 Tryz.underlying22 hi hz0 hz1 hz2 rfl (by decide) (.slice (some ⟨w.heap.size, 0, none⟩) 6 6) 6 [.int .u8 f, .int .u8 t, .int .u8 k, .int .u8 (v / 256), .int .u8 (v % 256), .int .u8 s.size] rfl ?c1 ⟨w.heap.size + 1, 0, none⟩ s.size _ (Lib.strCells s) rfl ?c2 ?c3 ?c4 ?c5 ?c6 ?c7 ?_))
  case c1 =>
    repeat (refine ownsRow_drew ?_)
    exact World.ownsRow.alloc (World.ownsRow_lit (base := w.heap.size) (e := 5) (size := 1) w #[.int .u8 f, .int .u8 t, .int .u8 k, .int .u8 (v / 256), .int .u8 (v % 256), .int .u8 s.size] 6 (Nat.le_refl _) (by unfold maxLen; omega) rfl) _
  case c2 => rw [Lib.strCells_length, Nat.mul_one]
  case c3 =>
    intro j u hj
    exact bytesRow_cell _ s _ _ _ _ (by simp) j u hj
  case c4 => intro u hu; simp [Lib.strCells] at hu; obtain ⟨x, _, rfl⟩ := hu; rfl
  case c5 => unfold maxLen; omega
  case c6 => omega
  case c7 => simp; omega
  intro v' w' hown hgrow _
  obtain ⟨g, cap, hv⟩ := Joins.ownsRow_form hown (by omega)
  subst hv
  have hB : Below w.heap.size w w' := Below.grown (B := w.heap.size) (by go_grown) hgrow (by simp; omega) (fun k hk => by simp [Value.ownBlock] at hk; omega)
  have hY : BytesIn w.heap.size w'.heap.size w' (some ⟨g, 0, none⟩) (cellBytes f t k v s) := by
    refine bytesIn_owns (e := 5) (n := 6 + s.size) (cap := cap) ?_
    rw [show (cellBytes f t k v s).map (Value.int .u8) = _ from by rw [cellBytes, List.map_append, ← strCells_ints]]
    exact hown
  clear hown hgrow
  go_wp2_with fail
  go_ret
  exact ⟨g, cap, rfl, hB, hY⟩

end Go.Proofs.YtdgonddimenmdaaGreat

/-
  The contracts of PackStub and of its model: both make the same bytes, in new memory, with the same code.
-/
namespace Go.Proofs.YtdgonddimenmdaaGreat
open Go.RowKit

def stubB (p s : Int) : Bool := inW p 0 11 && inW s 0 15
def stubCode (p s : Int) : Int := if stubB p s = true then 0 else 3
def stubBytes (p s : Int) : List Int := if stubB p s = true then [1, p, s] else []
theorem stubBytes_small (p s : Int) : (stubBytes p s).length ≤ 3 := by unfold stubBytes; split <;> simp

theorem bytesIn_three {lo hi b : Nat} {w : World} {x y z : Int} (hlo : lo ≤ b) (hhi : b < hi) (h0 : w.cell? ⟨b, 0, none⟩ = some (.int .u8 x)) (h1 : w.cell? ⟨b, 1, none⟩ = some (.int .u8 y)) (h2 : w.cell? ⟨b, 2, none⟩ = some (.int .u8 z))
    (f0 : w.frozen? ⟨b, 0, none⟩ = false) (f1 : w.frozen? ⟨b, 1, none⟩ = false) (f2 : w.frozen? ⟨b, 2, none⟩ = false) : BytesIn lo hi w (some ⟨b, 0, none⟩) [x, y, z] := by
  refine .inr ⟨b, 0, rfl, hlo, hhi, fun i hi => ?_, fun i hi => ?_⟩
  · match i, hi with
    | 0, _ => exact h0
    | 1, _ => exact h1
    | 2, _ => exact h2
  · match i, hi with
    | 0, _ => exact f0
    | 1, _ => exact f1
    | 2, _ => exact f2

theorem inW_bounds {n lo hi : Int} (h : inW n lo hi = true) : lo ≤ n ∧ n ≤ hi := by simpa [inW] using h

set_option maxHeartbeats 400000 in
theorem l1Place_any (p s : Int) (w : World) : Calls Tryz.prog 99 #[.int .i64 p, .int .i64 s] w fun e w' => e = .returned (.bool (stubB p s)) ∧ w' = w := by
  cases h1 : inW p 0 11
  · have e0 : stubB p s = false := by simp [stubB, h1]
    rw [e0]
    clear e0
    go_enter Tryz.func99, Tryz.ntmps99
    go_wp2_with (go_at_call 28; refine (l1InW_any _ _ _ _).mono ?_; rintro e w' ⟨rfl, rfl⟩)
    go_ret
    exact ⟨rfl, rfl⟩
  · have e0 : stubB p s = inW s 0 15 := by simp [stubB, h1]
    rw [e0]
    clear e0
    go_enter Tryz.func99, Tryz.ntmps99
    go_wp2_with (go_at_call 28; refine (l1InW_any _ _ _ _).mono ?_; rintro e w' ⟨rfl, rfl⟩)
    go_ret
    exact ⟨rfl, rfl⟩

end Go.Proofs.YtdgonddimenmdaaGreat

/-
  The contracts of rowCell, l1Cell, PackRow once more, with what is said of the capacity of their bytes; and of l1Stub at wider numbers.
-/
namespace Go.Proofs.YtdgonddimenmdaaGreat
open Go.RowKit

theorem ownsRow_cap {w : World} {base e n g cap : Nat} {xs : List Value} (h : w.ownsRow base e 1 (.slice (some ⟨g, 0, none⟩) n cap) n xs) : n ≤ cap := by
  rcases h.2 with ⟨h1, _⟩ | ⟨g', cap', cur, h1, _, _, hle, _⟩
  · cases h1
  · cases h1
    exact hle

set_option maxHeartbeats 1000000 in
theorem l1Cell_cap (f t k v : Int) (s : ByteArray) (b : Nat) (w : World) (f0 : 0 ≤ f) (f1 : f ≤ 2) (t0 : 0 ≤ t) (t1 : t ≤ 3) (k0 : 1 ≤ k) (k1 : k ≤ 99) (v0 : 0 ≤ v) (v1 : v ≤ 999) (hs : s.size ≤ 8) (h : RowAt w b t k v s) :
    Calls Tryz.prog 37 #[.int .i64 f, .pointer (some ⟨b, 0, none⟩)] w fun e w' =>
      ∃ g c, e = .returned (.slice (some ⟨g, 0, none⟩) (6 + s.size) c) ∧ 6 + s.size ≤ c ∧ Below w.heap.size w w' ∧ BytesIn w.heap.size w'.heap.size w' (some ⟨g, 0, none⟩) (cellBytes f t k v s) := by
  obtain ⟨i0, hi, hz0, hz1, hz2⟩ := info5
  obtain ⟨c0, c1, c2, c3⟩ := h
  have hlt : b < w.heap.size := World.block_lt_of_cell? w _ c0
  have kc := fun (w : World) (s : ByteArray) => run_bytes_of_string (P := Tryz.prog) w 9 22 5 s Tryz.underlying9 Tryz.underlying22 Tryz.underlying5
  go_enter Tryz.func37, Tryz.ntmps37
  go_wp2_with fail
  go_region_held (fun w' => w'.cell? ⟨b, 0, none⟩ = some (.int .i64 t) ∧ w'.cell? ⟨b, 1, none⟩ = some (.int .i64 k) ∧ w'.cell? ⟨b, 2, none⟩ = some (.int .i64 v) ∧ w'.cell? ⟨b, 3, none⟩ = some (.string s)) (go_keep) (fail)
  go_wp2_with (at_builtin; go_must (refine wpList_append_own _ rfl _ _ 22 rfl w.heap.size 5 i0 (.int .u8 0) 1 1 Tryz.underlying22 hi hz0 hz1 hz2 rfl (by decide) (.slice (some ⟨w.heap.size, 0, none⟩) 6 6) 6 [.int .u8 f, .int .u8 t, .int .u8 k, .int .u8 (v / 256), .int .u8 (v % 256), .int .u8 s.size] rfl ?c1 ⟨w.heap.size + 1, 0, none⟩ s.size _ (Lib.strCells s) rfl ?c2 ?c3 ?c4 ?c5 ?c6 ?c7 ?_))
  case c1 =>
    repeat (refine ownsRow_drew ?_)
    exact World.ownsRow.alloc (World.ownsRow_lit (base := w.heap.size) (e := 5) (size := 1) w #[.int .u8 f, .int .u8 t, .int .u8 k, .int .u8 (v / 256), .int .u8 (v % 256), .int .u8 s.size] 6 (Nat.le_refl _) (by unfold maxLen; omega) rfl) _
  case c2 => rw [Lib.strCells_length, Nat.mul_one]
  case c3 =>
    intro j u hj
    exact bytesRow_cell _ s _ _ _ _ (by simp) j u hj
  case c4 => intro u hu; simp [Lib.strCells] at hu; obtain ⟨x, _, rfl⟩ := hu; rfl
  case c5 => unfold maxLen; omega
  case c6 => omega
  case c7 => simp; omega
  intro v' w' hown hgrow _
  obtain ⟨g, cap, hv⟩ := Joins.ownsRow_form hown (by omega)
  subst hv
  have hcap := ownsRow_cap hown
  have hB : Below w.heap.size w w' := Below.grown (B := w.heap.size) (by go_grown) hgrow (by simp; omega) (fun k hk => by simp [Value.ownBlock] at hk; omega)
  have hY : BytesIn w.heap.size w'.heap.size w' (some ⟨g, 0, none⟩) (cellBytes f t k v s) := by
    refine bytesIn_owns (e := 5) (n := 6 + s.size) (cap := cap) ?_
    rw [show (cellBytes f t k v s).map (Value.int .u8) = _ from by rw [cellBytes, List.map_append, ← strCells_ints]]
    exact hown
  clear hown hgrow
  go_wp2_with fail
  go_ret
  exact ⟨g, cap, rfl, hcap, hB, hY⟩

set_option maxHeartbeats 400000 in
theorem l1Stub_wide (p s : Int) (w : World) (p0 : 0 ≤ p) (p1 : p ≤ 255) (s0 : 0 ≤ s) (s1 : s ≤ 255) :
    Calls Tryz.prog 35 #[.int .i64 p, .int .i64 s] w fun e w' => e = .returned (.slice (some ⟨w.heap.size, 0, none⟩) 3 3) ∧ Below w.heap.size w w' ∧ BytesIn w.heap.size w'.heap.size w' (some ⟨w.heap.size, 0, none⟩) [1, p, s] := by
  go_enter Tryz.func35, Tryz.ntmps35
  go_wp2
  go_ret
  exact ⟨rfl, by go_grown, bytesIn_three (by omega) (by simp) (by simp [go_sem]) (by simp [go_sem]) (by simp [go_sem]) (by simp [go_sem]) (by simp [go_sem]) (by simp [go_sem])⟩

set_option maxHeartbeats 400000 in
theorem lwBig_any (a : Option Addr) (n c : Nat) (w : World) : Calls Tryz.prog 4 #[.slice a n c] w fun e w' => e = .returned (.bool (decide ((1048576 : Int) < (n : Int)))) ∧ w' = w := by
  go_enter Tryz.func4, Tryz.ntmps4
  go_wp2
  go_ret
  exact ⟨rfl, rfl⟩

end Go.Proofs.YtdgonddimenmdaaGreat

/-
  A page as an array: a block of 64 bytes.
-/
namespace Go.Proofs.YtdgonddimenmdaaGreat
open Go.RowKit

/-- The cells of a page. -/
def pgC (zs : List Int) : Array Value := (zs.map (Value.int .u8)).toArray
/-- Block b is an array of 64 bytes that holds zs. -/
structure Arr (w : World) (b : Nat) (zs : List Int) : Prop where
  len : zs.length = 64
  row : w.heap[b]? = some (.cells (pgC zs) 57)

theorem pgC_size (zs : List Int) : (pgC zs).size = zs.length := by simp [pgC]
theorem pgC_at (zs : List Int) (i : Nat) (h : i < zs.length) : (pgC zs)[i]? = some (.int .u8 (zs.getD i 0)) := by
  simp [pgC, List.getD, List.getElem?_eq_getElem h]

theorem info57 : (Tryz.prog.info? 57).map (·.size) = some 64 := by kernel_rfl

variable {w w' : World} {b : Nat} {zs : List Int}

theorem Arr.lt (h : Arr w b zs) : b < w.heap.size := (Array.getElem?_eq_some_iff.1 h.row).1
theorem Arr.cell (h : Arr w b zs) (i : Nat) (hi : i < 64) : w.cell? ⟨b, i, none⟩ = some (.int .u8 (zs.getD i 0)) := by
  rw [cell_of_row w b i _ _ _ h.row, pgC_at zs i (by rw [h.len]; exact hi)]
theorem Arr.frozen (h : Arr w b zs) (i : Nat) : w.frozen? ⟨b, i, none⟩ = false := by simp [World.frozen?, h.row]
theorem Arr.below {B : Nat} (h : Arr w b zs) (hb : Below B w w') (hlt : b < B) : Arr w' b zs := ⟨h.len, (hb.block b hlt).trans h.row⟩
theorem Arr.grown (h : Arr w b zs) (hb : Below w.heap.size w w') : Arr w' b zs := h.below hb h.lt
theorem Arr.turned {lo hi : Nat} (h : Arr w b zs) (ht : Turned lo hi w w') (hn : b < lo ∨ hi ≤ b) : Arr w' b zs := ⟨h.len, (ht.block b h.lt (by omega)).trans h.row⟩
theorem Arr.other (h : Arr w b zs) (p : Addr) (v : Value) (hn : p.block ≠ b) : Arr (w.setCell p v) b zs := ⟨h.len, by rw [Below.heap_setCell _ _ _ _ (fun e => hn e.symm)]; exact h.row⟩
theorem Arr.set (h : Arr w b zs) (i : Nat) (v : Int) : Arr (w.setCell ⟨b, i, none⟩ (.int .u8 v)) b (zs.set i v) := by
  refine ⟨by rw [List.length_set]; exact h.len, ?_⟩
  have hv : w.heap[b]'h.lt = .cells (pgC zs) 57 := (Array.getElem?_eq_some_iff.1 h.row).2
  unfold World.setCell
  rw [Array.getElem?_eq_getElem (by simpa using h.lt), Array.getElem_modify]
  simp [hv, pgC]
theorem Arr.bytes (h : Arr w b zs) {lo hi : Nat} (h1 : lo ≤ b) (h2 : b < hi) : BytesIn lo hi w (some ⟨b, 0, none⟩) zs :=
  .inr ⟨b, 0, rfl, h1, h2, fun i hi => by rw [Nat.zero_add]; exact h.cell i (by rw [← h.len]; exact hi), fun i _ => by rw [Nat.zero_add]; exact h.frozen i⟩
theorem Arr.alloc (h : Arr w b zs) (o : Obj) : Arr (w.alloc o) b zs := ⟨h.len, (heap_alloc_old w o h.lt).trans h.row⟩
theorem arr_new (w : World) (zs : List Int) (h : zs.length = 64) : Arr (w.alloc (.cells (pgC zs) 57)) w.heap.size zs := ⟨h, heap_alloc_new w _⟩

end Go.Proofs.YtdgonddimenmdaaGreat
