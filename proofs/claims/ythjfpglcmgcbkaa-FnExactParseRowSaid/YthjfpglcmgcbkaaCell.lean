/-
  The contracts of what makes the cell of a row: rowCell and the model's l1Cell.
-/
import Derived.Test.YthjfpglcmgcbkaaRowC
import Derived.Test.YthjfpglcmgcbkaaBy
import Derived.Lib.AppendStr
import Derived.Lib.SmallJoins
import Derived.Deep.RegionHeld
namespace Go.Proofs.Ythjfpglcmgcbkaa
open Go.RowKit

def cellBytes (f t k v : Int) (s : ByteArray) : List Int := [f, t, k, v / 256, v % 256, s.size] ++ s.data.toList.map fun b => (b.toNat : Int)

theorem info5' : (Try.prog.info? 5).map (fun i => (i.zero, i.size, i.bytes)) = some (some (.int .u8 0), 1, 1) := by kernel_rfl
theorem info5 : ∃ i, Try.prog.info? 5 = some i ∧ i.zero = some (.int .u8 0) ∧ i.size = 1 ∧ i.bytes = 1 := by
  have h := info5'
  cases hi : Try.prog.info? 5 with
  | none => rw [hi] at h; simp at h
  | some i => rw [hi] at h; simp at h; exact ⟨i, rfl, h.1, h.2.1, h.2.2⟩

theorem and255 (v : Int) (v0 : 0 ≤ v) (v1 : v ≤ 999) : bits BinOp.and IntKind.i64 v 255 = v % 256 := by
  obtain ⟨n, rfl⟩ := Int.eq_ofNat_of_zero_le v0
  have h : ∀ m : Fin 1000, bits BinOp.and IntKind.i64 (m.val : Int) 255 = (m.val : Int) % 256 := by decide +kernel
  exact h ⟨n, by omega⟩

/-- What owns a row of bytes holds them. -/
theorem bytesIn_owns {w : World} {base n g cap : Nat} {e : TypeId} {zs : List Int} (h : w.ownsRow base e 1 (.slice (some ⟨g, 0, none⟩) n cap) n (zs.map (Value.int .u8))) : BytesIn base w.heap.size w (some ⟨g, 0, none⟩) zs := by
  have hl : zs.length = n := by have := h.1; simpa using this
  have hlt := h.lt g (by simp [Value.ownBlock])
  refine .inr ⟨g, 0, rfl, hlt.1, hlt.2, fun i hi => ?_, fun i hi => ?_⟩
  · rw [Nat.zero_add, h.cellAt i (by omega)]
    simp [List.getElem?_eq_getElem hi, List.getD]
  · rw [Nat.zero_add]; exact h.frozenAt i

theorem strCells_ints (s : ByteArray) : Lib.strCells s = (s.data.toList.map fun b => (b.toNat : Int)).map (Value.int .u8) := by
  simp [Lib.strCells]

set_option maxHeartbeats 400000 in
theorem rowCell_any (f t k v : Int) (s : ByteArray) (w : World) (f0 : 0 ≤ f) (f1 : f ≤ 2) (t0 : 0 ≤ t) (t1 : t ≤ 3) (k0 : 1 ≤ k) (k1 : k ≤ 99) (v0 : 0 ≤ v) (v1 : v ≤ 999) (hs : s.size ≤ 8) :
    Calls Try.prog 46 #[.int .i64 f, .agg #[.int .i64 t, .int .i64 k, .int .i64 v, .string s]] w fun e w' =>
      ∃ g c, e = .returned (.slice (some ⟨g, 0, none⟩) (6 + s.size) c) ∧ Below w.heap.size w w' ∧ BytesIn w.heap.size w'.heap.size w' (some ⟨g, 0, none⟩) (cellBytes f t k v s) := by
  obtain ⟨i0, hi, hz0, hz1, hz2⟩ := info5
  have ha := and255 v v0 v1
  go_enter Try.func46, Try.ntmps46
  go_wp2_with (at_builtin; go_must (refine Lib.wpList_append_own_string _ rfl _ _ 22 9 rfl (w.heap.size + 1) 5 i0 Try.underlying22 Try.underlying9 hi hz0 hz1 hz2 (.slice (some ⟨w.heap.size + 1, 0, none⟩) 6 6) 6 [.int .u8 f, .int .u8 t, .int .u8 k, .int .u8 (v / 256), .int .u8 (v % 256), .int .u8 s.size] rfl ?c1 s rfl ?c3 ?c4 ?c5 ?_))
  case c1 =>
    have h := World.ownsRow_lit (base := w.heap.size + 1) (e := 5) (size := 1) (w.alloc (.cells #[.int .i64 t, .int .i64 k, .int .i64 v, .string s] 26)) #[.int .u8 f, .int .u8 t, .int .u8 k, .int .u8 (v / 256), .int .u8 (v % 256), .int .u8 s.size] 6 (by simp) (by unfold maxLen; omega) rfl
    simp only [World.size_alloc] at h
    exact h
  case c3 => unfold maxLen; omega
  case c4 => omega
  case c5 => simp
  intro v' w' hown hgrow _
  obtain ⟨g, cap, hv⟩ := Joins.ownsRow_form hown (by omega)
  subst hv
  have hB : Below w.heap.size w w' := Below.grown (B := w.heap.size) (by go_grown) hgrow (by simp; omega) (fun k hk => by simp [Value.ownBlock] at hk; omega)
  have hY : BytesIn w.heap.size w'.heap.size w' (some ⟨g, 0, none⟩) (cellBytes f t k v s) := by
    refine BytesIn.mono (bytesIn_owns (base := w.heap.size + 1) (e := 5) (n := 6 + s.size) (cap := cap) ?_) (by omega) (Nat.le_refl _)
    rw [show (cellBytes f t k v s).map (Value.int .u8) = _ from by rw [cellBytes, List.map_append, ← strCells_ints]]
    exact hown
  clear hown hgrow
  go_wp2_with fail
  go_ret
  exact ⟨g, cap, rfl, hB, hY⟩

theorem ownsRow_drew {w : World} {base : Nat} {e : TypeId} {size : Nat} {v : Value} {n : Nat} {xs : List Value} (h : w.ownsRow base e size v n xs) : w.drew.ownsRow base e size v n xs := h

theorem bytesRow_cell (w : World) (s : ByteArray) (cap g : Nat) (e : TypeId) (m : Nat × Nat) (hg : g = w.heap.size) (j : Nat) (u : Value) (h : (Lib.strCells s)[j]? = some u) : (w.alloc (.cells (bytesRow s cap) e m)).cell? ((⟨g, 0, none⟩ : Addr).add j) = some u := by
  subst hg
  have hj : j < s.size := by have := (List.getElem?_eq_some_iff.1 h).1; rw [Lib.strCells_length] at this; exact this
  rw [show ((⟨w.heap.size, 0, none⟩ : Addr).add j) = ⟨w.heap.size, j, none⟩ from by unfold Addr.add; split <;> simp_all]
  rw [World.cell?_alloc_mark]
  simp [Lib.strCells] at h
  obtain ⟨x, hx, rfl⟩ := h
  obtain ⟨_, rfl⟩ := Array.getElem?_eq_some_iff.1 hx
  simp [bytesRow, Array.getElem?_append, hj]
set_option maxHeartbeats 1000000 in
theorem l1Cell_any (f t k v : Int) (s : ByteArray) (b : Nat) (w : World) (f0 : 0 ≤ f) (f1 : f ≤ 2) (t0 : 0 ≤ t) (t1 : t ≤ 3) (k0 : 1 ≤ k) (k1 : k ≤ 99) (v0 : 0 ≤ v) (v1 : v ≤ 999) (hs : s.size ≤ 8) (h : RowAt w b t k v s) :
    Calls Try.prog 38 #[.int .i64 f, .pointer (some ⟨b, 0, none⟩)] w fun e w' =>
      ∃ g c, e = .returned (.slice (some ⟨g, 0, none⟩) (6 + s.size) c) ∧ Below w.heap.size w w' ∧ BytesIn w.heap.size w'.heap.size w' (some ⟨g, 0, none⟩) (cellBytes f t k v s) := by
  obtain ⟨i0, hi, hz0, hz1, hz2⟩ := info5
  obtain ⟨c0, c1, c2, c3⟩ := h
  have hlt : b < w.heap.size := World.block_lt_of_cell? w _ c0
  have kc := fun (w : World) (s : ByteArray) => run_bytes_of_string (P := Try.prog) w 9 22 5 s Try.underlying9 Try.underlying22 Try.underlying5
  go_enter Try.func38, Try.ntmps38
  go_wp2_with fail
  go_region_held (fun w' => w'.cell? ⟨b, 0, none⟩ = some (.int .i64 t) ∧ w'.cell? ⟨b, 1, none⟩ = some (.int .i64 k) ∧ w'.cell? ⟨b, 2, none⟩ = some (.int .i64 v) ∧ w'.cell? ⟨b, 3, none⟩ = some (.string s)) (go_keep) (fail)
  go_wp2_with (at_builtin; go_must (refine wpList_append_own _ rfl _ _ 22 rfl w.heap.size 5 i0 (.int .u8 0) 1 1 Try.underlying22 hi hz0 hz1 hz2 rfl (by decide) (.slice (some ⟨w.heap.size, 0, none⟩) 6 6) 6 [.int .u8 f, .int .u8 t, .int .u8 k, .int .u8 (v / 256), .int .u8 (v % 256), .int .u8 s.size] rfl ?c1 ⟨w.heap.size + 1, 0, none⟩ s.size _ (Lib.strCells s) rfl ?c2 ?c3 ?c4 ?c5 ?c6 ?c7 ?_))
  case c1 =>
    repeat (refine ownsRow_drew ?_)
    exact World.ownsRow.alloc (World.ownsRow_lit (base := w.heap.size) (e := 5) (size := 1) w #[.int .u8 f, .int .u8 t, .int .u8 k, .int .u8 (v / 256), .int .u8 (v % 256), .int .u8 s.size] 6 (Nat.le_refl _) (by unfold maxLen; omega) rfl) _
  case c2 => rw [Lib.strCells_length, Nat.mul_one]
  case c3 =>
    intro j u hj
    exact bytesRow_cell _ s _ _ _ _ (by simp) j u hj
  case c4 => intro u hu; simp [Lib.strCells] at hu; obtain ⟨x, _, rfl⟩ := hu; rfl
  case c5 => unfold maxLen; omega
  case c6 => omega
  case c7 => simp; omega
  intro v' w' hown hgrow _
  obtain ⟨g, cap, hv⟩ := Joins.ownsRow_form hown (by omega)
  subst hv
  have hB : Below w.heap.size w w' := Below.grown (B := w.heap.size) (by go_grown) hgrow (by simp; omega) (fun k hk => by simp [Value.ownBlock] at hk; omega)
  have hY : BytesIn w.heap.size w'.heap.size w' (some ⟨g, 0, none⟩) (cellBytes f t k v s) := by
    refine bytesIn_owns (e := 5) (n := 6 + s.size) (cap := cap) ?_
    rw [show (cellBytes f t k v s).map (Value.int .u8) = _ from by rw [cellBytes, List.map_append, ← strCells_ints]]
    exact hown
  clear hown hgrow
  go_wp2_with fail
  go_ret
  exact ⟨g, cap, rfl, hB, hY⟩

end Go.Proofs.Ythjfpglcmgcbkaa
