/-
  The contract of toByteS: new memory that holds the same bytes.
-/
import Derived.Test.YtcjkjenebnodbaaDoorSDfr
import Derived.Lib.AppendStr
import Derived.Lib.SmallJoins
import Derived.Deep.RegionHeld
import Derived.Deep.WholeRow
import Derived.Deep.MidRow

namespace Go.Proofs.YtcjkjenebnodbaaDoor.Dr
open Go.RowKit

theorem info5' : (Tryd.prog.info? 5).map (fun i => (i.zero, i.size, i.bytes)) = some (some (.int .u8 0), 1, 1) := by kernel_rfl
theorem info5 : ∃ i, Tryd.prog.info? 5 = some i ∧ i.zero = some (.int .u8 0) ∧ i.size = 1 ∧ i.bytes = 1 := by
  have h := info5'
  cases hi : Tryd.prog.info? 5 with
  | none => rw [hi] at h; simp at h
  | some i => rw [hi] at h; simp at h; exact ⟨i, rfl, h.1, h.2.1, h.2.2⟩

/-- What owns a row of bytes holds them. -/
theorem bytesIn_owns {w : World} {base n g cap : Nat} {e : TypeId} {zs : List Int} (h : w.ownsRow base e 1 (.slice (some ⟨g, 0, none⟩) n cap) n (zs.map (Value.int .u8))) : BytesIn base w.heap.size w (some ⟨g, 0, none⟩) zs := by
  have hl : zs.length = n := by have := h.1; simpa using this
  have hlt := h.lt g (by simp [Value.ownBlock])
  refine .inr ⟨g, 0, rfl, hlt.1, hlt.2, fun i hi => ?_, fun i hi => ?_⟩
  · rw [Nat.zero_add, h.cellAt i (by omega)]
    simp [List.getElem?_eq_getElem hi, List.getD]
  · rw [Nat.zero_add]; exact h.frozenAt i

/-- The slice that begins at a reads as the bytes zs. -/
def Reads (w : World) (a : Option Addr) (zs : List Int) : Prop :=
  zs = [] ∨ ∃ b off, a = some ⟨b, off, none⟩ ∧ ∀ i, i < zs.length → w.cell? ⟨b, off + i, none⟩ = some (.int .u8 (zs.getD i 0))

theorem Reads.below {w w' : World} {a : Option Addr} {zs : List Int} (h : Reads w a zs) {B : Nat} (hb : Below B w w') (hB : w.heap.size ≤ B) : Reads w' a zs := by
  rcases h with h | ⟨b, off, ha, hc⟩
  · exact .inl h
  · exact .inr ⟨b, off, ha, fun i hi => (hb.cell (p := ⟨b, off + i, none⟩) (Nat.lt_of_lt_of_le (World.block_lt_of_cell? w _ (hc i hi)) hB)).trans (hc i hi)⟩

theorem BytesIn.reads {lo hi : Nat} {w : World} {a : Option Addr} {zs : List Int} (h : BytesIn lo hi w a zs) : Reads w a zs := by
  rcases h with h | ⟨b, off, ha, _, _, hc, _⟩
  · exact .inl h
  · exact .inr ⟨b, off, ha, hc⟩

theorem made_zero (n i : Nat) (h : i < n) : (madeCells #[Value.int .u8 0] n).toList[i]? = some (.int .u8 0) := by
  simp [madeCells, h, Nat.mod_one]

set_option maxHeartbeats 400000 in
theorem toByteS_any (a : Option Addr) (zs : List Int) (n c : Nat) (w : World) (hn : zs.length = n) (hm : n ≤ 1048576) (ha : Reads w a zs) :
    Calls Tryd.prog 73 #[.slice a n c] w fun e w' => e = .returned (.slice (some ⟨w.heap.size, 0, none⟩) n n) ∧ Below w.heap.size w w' ∧ BytesIn w.heap.size w'.heap.size w' (some ⟨w.heap.size, 0, none⟩) zs := by
  obtain ⟨i0, hi, hz0, hz1, hz2⟩ := info5
  by_cases h0 : n = 0
  · subst h0
    have hz : zs = [] := by simpa using hn
    go_enter Tryd.func73, Tryd.ntmps73
    go_wp2_with (at_make; refine wpList_make_full _ rfl _ _ 22 rfl w.heap.size 5 i0 (.int .u8 0) 1 Tryd.underlying22 hi hz0 hz1 .i64 .i64 _ _ 0 rfl rfl rfl rfl ?c1 ?c2 (Nat.le_refl _) ?_)
    case c1 => omega
    case c2 => unfold maxLen; omega
    intro w1 hown hg
    have hB : Below w.heap.size w w1 := Below.grown (Below.refl _ _) hg (Nat.le_refl _) (fun k hk => by cases hk)
    clear hown hg
    go_wp2_with fail
    go_rounds 1
    go_ret
    exact ⟨rfl, hB, .inl hz⟩
  · rcases ha with ha | ⟨b, off, rfl, hc⟩
    · rw [ha] at hn; simp at hn; omega
    have hb0 : b < w.heap.size := World.block_lt_of_cell? w _ (hc 0 (by omega))
    go_enter Tryd.func73, Tryd.ntmps73
    go_wp2_with (at_make; refine wpList_make_full _ rfl _ _ 22 rfl w.heap.size 5 i0 (.int .u8 0) 1 Tryd.underlying22 hi hz0 hz1 .i64 .i64 _ _ n rfl rfl rfl rfl ?c1 ?c2 (Nat.le_refl _) ?_)
    case c1 => rw [hz2]; omega
    case c2 => unfold maxLen; omega
    intro w1 hown hg
    have hB : Below w.heap.size w w1 := Below.grown (Below.refl _ _) hg (Nat.le_refl _) (fun k hk => by cases hk)
    have hlt1 : w.heap.size < w1.heap.size := (hown.lt w.heap.size (by simp [Value.ownBlock])).2
    have hC : Hid (∀ i, i < n → w1.cell? ⟨w.heap.size, i, none⟩ = some (.int .u8 0)) := fun i hi => by rw [hown.cellAt i (by omega), made_zero n i hi]
    have hF : Hid (∀ i, i < n → w1.frozen? ⟨w.heap.size, i, none⟩ = false) := fun i _ => hown.frozenAt i
    have hD : Hid (∀ i, i < n → w1.cell? ⟨b, off + i, none⟩ = some (.int .u8 (zs.getD i 0))) := fun i hi => (hB.cell (p := ⟨b, off + i, none⟩) hb0).trans (hc i (by omega))
    clear hown hg hc hi hz0 hz1 hz2
    go_wp2_with fail
    go_loopw [4] (fun i wr => ∃ k : Nat, k ≤ n ∧ i = .int .i64 k ∧ Turned w.heap.size (w.heap.size + 1) w1 wr ∧ Hid (∀ i, i < n → wr.cell? ⟨w.heap.size, i, none⟩ = some (.int .u8 (if i < k then zs.getD i 0 else 0))) ∧ Hid (∀ i, i < n → wr.frozen? ⟨w.heap.size, i, none⟩ = false)) (fun i _ => n - (intOf i).toNat)
    case atStart => exact ⟨0, Nat.zero_le _, rfl, Turned.refl _ _ _, fun i hi => by rw [hC.out i hi]; simp, hF⟩
    case round =>
      obtain ⟨k, hk, rfl, ht, hcr, hfr⟩ := hrel
      by_cases hlt : k < n
      · have e1 : wr.cell? ⟨b, off + k, none⟩ = some (.int .u8 (zs.getD k 0)) := ht.cell (hD.out k hlt) (.inl hb0)
        have e2 : wr.cell? ⟨w.heap.size, k, none⟩ = some (.int .u8 0) := by rw [hcr.out k hlt]; simp
        have e3 := hfr.out k hlt
        obtain ⟨z, hzv⟩ : ∃ z, z = zs.getD k 0 := ⟨_, rfl⟩
        rw [← hzv] at e1
        have HV : Hid (z = zs.getD k 0) := hzv
        clear hzv
        have hkn : (k : Int) < (n : Int) := by omega
        go_wp2
        go_roundw
        case rel =>
          refine ⟨k + 1, by omega, by go_num, ht.setCell (Nat.le_refl _) (by simp) _, fun i hi => ?_, fun i hi => by rw [World.frozen?_setCell]; exact hfr.out i hi⟩
          by_cases e : i = k
          · subst e
            rw [World.cell?_setCell_same _ _ _ e2, if_pos (by omega), HV.out]
          · rw [World.cell?_setCell_other _ _ _ _ (fun h => e (by have := congrArg Addr.off h; simp at this; omega)), hcr.out i hi]
            by_cases h1 : i < k
            · simp [h1, show i < k + 1 from by omega]
            · simp [h1, show ¬ i < k + 1 from by omega]
        case measure => simp [intOf]; omega
      · have e : k = n := by omega
        subst e
        go_wp2
        go_ret
        refine ⟨rfl, hB.trans (ht.toBelow hB.size (Nat.le_refl _)), .inr ⟨w.heap.size, 0, rfl, Nat.le_refl _, Nat.lt_of_lt_of_le hlt1 ht.size, fun i hi => ?_, fun i hi => ?_⟩⟩
        · rw [Nat.zero_add, hcr.out i (by omega), if_pos (by omega)]
        · rw [Nat.zero_add]; exact hfr.out i (by omega)

end Go.Proofs.YtcjkjenebnodbaaDoor.Dr

/-
  A page as an array: a block of 64 bytes.
-/
namespace Go.Proofs.YtcjkjenebnodbaaDoor.Dr
open Go.RowKit

/-- The cells of a page. -/
def pgC (zs : List Int) : Array Value := (zs.map (Value.int .u8)).toArray
/-- Block b is an array of 64 bytes that holds zs. -/
structure Arr (w : World) (b : Nat) (zs : List Int) : Prop where
  len : zs.length = 64
  row : w.heap[b]? = some (.cells (pgC zs) 58)

theorem pgC_size (zs : List Int) : (pgC zs).size = zs.length := by simp [pgC]
theorem pgC_at (zs : List Int) (i : Nat) (h : i < zs.length) : (pgC zs)[i]? = some (.int .u8 (zs.getD i 0)) := by
  simp [pgC, List.getD, List.getElem?_eq_getElem h]

variable {w w' : World} {b : Nat} {zs : List Int}

theorem Arr.lt (h : Arr w b zs) : b < w.heap.size := (Array.getElem?_eq_some_iff.1 h.row).1
theorem Arr.cell (h : Arr w b zs) (i : Nat) (hi : i < 64) : w.cell? ⟨b, i, none⟩ = some (.int .u8 (zs.getD i 0)) := by
  rw [cell_of_row w b i _ _ _ h.row, pgC_at zs i (by rw [h.len]; exact hi)]
theorem Arr.frozen (h : Arr w b zs) (i : Nat) : w.frozen? ⟨b, i, none⟩ = false := by simp [World.frozen?, h.row]
theorem Arr.below {B : Nat} (h : Arr w b zs) (hb : Below B w w') (hlt : b < B) : Arr w' b zs := ⟨h.len, (hb.block b hlt).trans h.row⟩
theorem Arr.grown (h : Arr w b zs) (hb : Below w.heap.size w w') : Arr w' b zs := h.below hb h.lt
theorem Arr.turned {lo hi : Nat} (h : Arr w b zs) (ht : Turned lo hi w w') (hn : b < lo ∨ hi ≤ b) : Arr w' b zs := ⟨h.len, (ht.block b h.lt (by omega)).trans h.row⟩
theorem Arr.other (h : Arr w b zs) (p : Addr) (v : Value) (hn : p.block ≠ b) : Arr (w.setCell p v) b zs := ⟨h.len, by rw [Below.heap_setCell _ _ _ _ (fun e => hn e.symm)]; exact h.row⟩
theorem Arr.set (h : Arr w b zs) (i : Nat) (v : Int) : Arr (w.setCell ⟨b, i, none⟩ (.int .u8 v)) b (zs.set i v) := by
  refine ⟨by rw [List.length_set]; exact h.len, ?_⟩
  have hv : w.heap[b]'h.lt = .cells (pgC zs) 58 := (Array.getElem?_eq_some_iff.1 h.row).2
  unfold World.setCell
  rw [Array.getElem?_eq_getElem (by simpa using h.lt), Array.getElem_modify]
  simp [hv, pgC]
theorem Arr.bytes (h : Arr w b zs) {lo hi : Nat} (h1 : lo ≤ b) (h2 : b < hi) : BytesIn lo hi w (some ⟨b, 0, none⟩) zs :=
  .inr ⟨b, 0, rfl, h1, h2, fun i hi => by rw [Nat.zero_add]; exact h.cell i (by rw [← h.len]; exact hi), fun i _ => by rw [Nat.zero_add]; exact h.frozen i⟩
theorem Arr.alloc (h : Arr w b zs) (o : Obj) : Arr (w.alloc o) b zs := ⟨h.len, (heap_alloc_old w o h.lt).trans h.row⟩
theorem arr_new (w : World) (zs : List Int) (h : zs.length = 64) : Arr (w.alloc (.cells (pgC zs) 58)) w.heap.size zs := ⟨h, heap_alloc_new w _⟩

end Go.Proofs.YtcjkjenebnodbaaDoor.Dr
