/-
  Which of two rows is before the other: both functions answer alike.
-/
import Derived.Test.YtonngopnhpmjaaaERowA
import Derived.WalkKit
import Derived.WalkSpells
import Derived.WalkLawsBesides
import Derived.Handy
import Derived.BigQuiet
import Derived.Test.YtonngopnhpmjaaaEFla
import Derived.Lib.AppendStr
import Derived.Lib.SmallJoins
import Derived.Deep.RegionHeld

namespace Go.Proofs.Ytonngopnhpmjaaa
open Go.RowKit

/-- Is the row with table t, key k before the one with table u, key l? -/
def befB (t k u l : Int) : Bool := decide (t < u) || (decide (t = u) && decide (k < l))

set_option maxHeartbeats 400000 in
theorem implIsBefore_any (t k v : Int) (s : ByteArray) (u l x : Int) (r : ByteArray) (w : World) :
    Calls Try.prog 104 #[.agg #[.int .i64 t, .int .i64 k, .int .i64 v, .string s], .agg #[.int .i64 u, .int .i64 l, .int .i64 x, .string r]] w fun e w' => e = .returned (.bool (befB t k u l)) ∧ Below w.heap.size w w' := by
  by_cases h1 : t < u
  · have e1 : befB t k u l = true := by simp [befB, h1]
    have d1 : decide (t < u) = true := by simpa using h1
    rw [e1]
    go_enter Try.func104, Try.ntmps104
    go_wp2
    go_ret
    exact ⟨rfl, by go_grown⟩
  · have d1 : decide (t < u) = false := by simpa using h1
    by_cases h2 : t = u
    · subst h2
      by_cases h3 : k < l
      · have e1 : befB t k t l = true := by simp [befB, h3]
        rw [e1]
        go_enter Try.func104, Try.ntmps104
        go_wp2
        go_ret
        exact ⟨rfl, by go_grown⟩
      · have e1 : befB t k t l = false := by simp [befB]; omega
        have d3 : decide (k < l) = false := by simpa using h3
        rw [e1]
        go_enter Try.func104, Try.ntmps104
        go_wp2
        go_ret
        exact ⟨rfl, by go_grown⟩
    · have e1 : befB t k u l = false := by simp [befB]; omega
      have d2 : (t == u) = false := by simpa using h2
      rw [e1]
      go_enter Try.func104, Try.ntmps104
      go_wp2
      go_ret
      exact ⟨rfl, by go_grown⟩

set_option maxHeartbeats 400000 in
theorem l1Before_any (a b : Nat) (t k u l : Int) (w : World) (ha0 : w.cell? ⟨a, 0, none⟩ = some (.int .i64 t)) (ha1 : w.cell? ⟨a, 1, none⟩ = some (.int .i64 k)) (hb0 : w.cell? ⟨b, 0, none⟩ = some (.int .i64 u)) (hb1 : w.cell? ⟨b, 1, none⟩ = some (.int .i64 l)) :
    Calls Try.prog 100 #[.pointer (some ⟨a, 0, none⟩), .pointer (some ⟨b, 0, none⟩)] w fun e w' => e = .returned (.bool (befB t k u l)) ∧ ∃ n, w' = w.drewN n := by
  by_cases h1 : t < u
  · have e1 : befB t k u l = true := by simp [befB, h1]
    have d1 : decide (t < u) = true := by simpa using h1
    rw [e1]
    go_enter Try.func100, Try.ntmps100
    go_wp2
    go_quiet (fail)
    go_wp2
    go_ret
    exact ⟨rfl, _, rfl⟩
  · have d1 : decide (t < u) = false := by simpa using h1
    by_cases h2 : t = u
    · subst h2
      by_cases h3 : k < l
      · have e1 : befB t k t l = true := by simp [befB, h3]
        rw [e1]
        go_enter Try.func100, Try.ntmps100
        go_wp2
        go_quiet (fail)
        go_wp2
        go_ret
        exact ⟨rfl, _, rfl⟩
      · have e1 : befB t k t l = false := by simp [befB]; omega
        have d3 : decide (k < l) = false := by simpa using h3
        rw [e1]
        go_enter Try.func100, Try.ntmps100
        go_wp2
        go_quiet (fail)
        go_wp2
        go_ret
        exact ⟨rfl, _, rfl⟩
    · have e1 : befB t k u l = false := by simp [befB]; omega
      have d2 : (t == u) = false := by simpa using h2
      rw [e1]
      go_enter Try.func100, Try.ntmps100
      go_wp2
      go_quiet (fail)
      go_wp2
      go_ret
      exact ⟨rfl, _, rfl⟩

end Go.Proofs.Ytonngopnhpmjaaa

/-
  The contracts of what makes the cell of a row: rowCell and the model's l1Cell.
-/
namespace Go.Proofs.Ytonngopnhpmjaaa
open Go.RowKit

def cellBytes (f t k v : Int) (s : ByteArray) : List Int := [f, t, k, v / 256, v % 256, s.size] ++ s.data.toList.map fun b => (b.toNat : Int)

theorem info5' : (Try.prog.info? 5).map (fun i => (i.zero, i.size, i.bytes)) = some (some (.int .u8 0), 1, 1) := by kernel_rfl
theorem info5 : ∃ i, Try.prog.info? 5 = some i ∧ i.zero = some (.int .u8 0) ∧ i.size = 1 ∧ i.bytes = 1 := by
  have h := info5'
  cases hi : Try.prog.info? 5 with
  | none => rw [hi] at h; simp at h
  | some i => rw [hi] at h; simp at h; exact ⟨i, rfl, h.1, h.2.1, h.2.2⟩

theorem and255 (v : Int) (v0 : 0 ≤ v) (v1 : v ≤ 999) : bits BinOp.and IntKind.i64 v 255 = v % 256 := by
  obtain ⟨n, rfl⟩ := Int.eq_ofNat_of_zero_le v0
  have h : ∀ m : Fin 1000, bits BinOp.and IntKind.i64 (m.val : Int) 255 = (m.val : Int) % 256 := by decide +kernel
  exact h ⟨n, by omega⟩

/-- What owns a row of bytes holds them. -/
theorem bytesIn_owns {w : World} {base n g cap : Nat} {e : TypeId} {zs : List Int} (h : w.ownsRow base e 1 (.slice (some ⟨g, 0, none⟩) n cap) n (zs.map (Value.int .u8))) : BytesIn base w.heap.size w (some ⟨g, 0, none⟩) zs := by
  have hl : zs.length = n := by have := h.1; simpa using this
  have hlt := h.lt g (by simp [Value.ownBlock])
  refine .inr ⟨g, 0, rfl, hlt.1, hlt.2, fun i hi => ?_, fun i hi => ?_⟩
  · rw [Nat.zero_add, h.cellAt i (by omega)]
    simp [List.getElem?_eq_getElem hi, List.getD]
  · rw [Nat.zero_add]; exact h.frozenAt i

theorem strCells_ints (s : ByteArray) : Lib.strCells s = (s.data.toList.map fun b => (b.toNat : Int)).map (Value.int .u8) := by
  simp [Lib.strCells]

theorem ownsRow_drew {w : World} {base : Nat} {e : TypeId} {size : Nat} {v : Value} {n : Nat} {xs : List Value} (h : w.ownsRow base e size v n xs) : w.drew.ownsRow base e size v n xs := h

theorem bytesRow_cell (w : World) (s : ByteArray) (cap g : Nat) (e : TypeId) (m : Nat × Nat) (hg : g = w.heap.size) (j : Nat) (u : Value) (h : (Lib.strCells s)[j]? = some u) : (w.alloc (.cells (bytesRow s cap) e m)).cell? ((⟨g, 0, none⟩ : Addr).add j) = some u := by
  subst hg
  have hj : j < s.size := by have := (List.getElem?_eq_some_iff.1 h).1; rw [Lib.strCells_length] at this; exact this
  rw [show ((⟨w.heap.size, 0, none⟩ : Addr).add j) = ⟨w.heap.size, j, none⟩ from by unfold Addr.add; split <;> simp_all]
  rw [World.cell?_alloc_mark]
  simp [Lib.strCells] at h
  obtain ⟨x, hx, rfl⟩ := h
  obtain ⟨_, rfl⟩ := Array.getElem?_eq_some_iff.1 hx
  simp [bytesRow, Array.getElem?_append, hj]
end Go.Proofs.Ytonngopnhpmjaaa

/-
  The contract of toByteS: new memory that holds the same bytes.
-/
namespace Go.Proofs.Ytonngopnhpmjaaa
open Go.RowKit

/-- The slice that begins at a reads as the bytes zs. -/
def Reads (w : World) (a : Option Addr) (zs : List Int) : Prop :=
  zs = [] ∨ ∃ b off, a = some ⟨b, off, none⟩ ∧ ∀ i, i < zs.length → w.cell? ⟨b, off + i, none⟩ = some (.int .u8 (zs.getD i 0))

theorem Reads.below {w w' : World} {a : Option Addr} {zs : List Int} (h : Reads w a zs) {B : Nat} (hb : Below B w w') (hB : w.heap.size ≤ B) : Reads w' a zs := by
  rcases h with h | ⟨b, off, ha, hc⟩
  · exact .inl h
  · exact .inr ⟨b, off, ha, fun i hi => (hb.cell (p := ⟨b, off + i, none⟩) (Nat.lt_of_lt_of_le (World.block_lt_of_cell? w _ (hc i hi)) hB)).trans (hc i hi)⟩

theorem BytesIn.reads {lo hi : Nat} {w : World} {a : Option Addr} {zs : List Int} (h : BytesIn lo hi w a zs) : Reads w a zs := by
  rcases h with h | ⟨b, off, ha, _, _, hc, _⟩
  · exact .inl h
  · exact .inr ⟨b, off, ha, hc⟩

theorem made_zero (n i : Nat) (h : i < n) : (madeCells #[Value.int .u8 0] n).toList[i]? = some (.int .u8 0) := by
  simp [madeCells, h, Nat.mod_one]

set_option maxHeartbeats 400000 in
theorem toByteS_any (a : Option Addr) (zs : List Int) (n c : Nat) (w : World) (hn : zs.length = n) (hm : n ≤ 1048576) (ha : Reads w a zs) :
    Calls Try.prog 68 #[.slice a n c] w fun e w' => e = .returned (.slice (some ⟨w.heap.size, 0, none⟩) n n) ∧ Below w.heap.size w w' ∧ BytesIn w.heap.size w'.heap.size w' (some ⟨w.heap.size, 0, none⟩) zs := by
  obtain ⟨i0, hi, hz0, hz1, hz2⟩ := info5
  by_cases h0 : n = 0
  · subst h0
    have hz : zs = [] := by simpa using hn
    go_enter Try.func68, Try.ntmps68
    go_wp2_with (at_make; refine wpList_make_full _ rfl _ _ 106 rfl w.heap.size 5 i0 (.int .u8 0) 1 Try.underlying106 hi hz0 hz1 .i64 .i64 _ _ 0 rfl rfl rfl rfl ?c1 ?c2 (Nat.le_refl _) ?_)
    case c1 => omega
    case c2 => unfold maxLen; omega
    intro w1 hown hg
    have hB : Below w.heap.size w w1 := Below.grown (Below.refl _ _) hg (Nat.le_refl _) (fun k hk => by cases hk)
    clear hown hg
    go_wp2_with fail
    go_rounds 1
    go_ret
    exact ⟨rfl, hB, .inl hz⟩
  · rcases ha with ha | ⟨b, off, rfl, hc⟩
    · rw [ha] at hn; simp at hn; omega
    have hb0 : b < w.heap.size := World.block_lt_of_cell? w _ (hc 0 (by omega))
    go_enter Try.func68, Try.ntmps68
    go_wp2_with (at_make; refine wpList_make_full _ rfl _ _ 106 rfl w.heap.size 5 i0 (.int .u8 0) 1 Try.underlying106 hi hz0 hz1 .i64 .i64 _ _ n rfl rfl rfl rfl ?c1 ?c2 (Nat.le_refl _) ?_)
    case c1 => rw [hz2]; omega
    case c2 => unfold maxLen; omega
    intro w1 hown hg
    have hB : Below w.heap.size w w1 := Below.grown (Below.refl _ _) hg (Nat.le_refl _) (fun k hk => by cases hk)
    have hlt1 : w.heap.size < w1.heap.size := (hown.lt w.heap.size (by simp [Value.ownBlock])).2
    have hC : Hid (∀ i, i < n → w1.cell? ⟨w.heap.size, i, none⟩ = some (.int .u8 0)) := fun i hi => by rw [hown.cellAt i (by omega), made_zero n i hi]
    have hF : Hid (∀ i, i < n → w1.frozen? ⟨w.heap.size, i, none⟩ = false) := fun i _ => hown.frozenAt i
    have hD : Hid (∀ i, i < n → w1.cell? ⟨b, off + i, none⟩ = some (.int .u8 (zs.getD i 0))) := fun i hi => (hB.cell (p := ⟨b, off + i, none⟩) hb0).trans (hc i (by omega))
    clear hown hg hc hi hz0 hz1 hz2
    go_wp2_with fail
    go_loopw [4] (fun i wr => ∃ k : Nat, k ≤ n ∧ i = .int .i64 k ∧ Turned w.heap.size (w.heap.size + 1) w1 wr ∧ Hid (∀ i, i < n → wr.cell? ⟨w.heap.size, i, none⟩ = some (.int .u8 (if i < k then zs.getD i 0 else 0))) ∧ Hid (∀ i, i < n → wr.frozen? ⟨w.heap.size, i, none⟩ = false)) (fun i _ => n - (intOf i).toNat)
    case atStart => exact ⟨0, Nat.zero_le _, rfl, Turned.refl _ _ _, fun i hi => by rw [hC.out i hi]; simp, hF⟩
    case round =>
      obtain ⟨k, hk, rfl, ht, hcr, hfr⟩ := hrel
      by_cases hlt : k < n
      · have e1 : wr.cell? ⟨b, off + k, none⟩ = some (.int .u8 (zs.getD k 0)) := ht.cell (hD.out k hlt) (.inl hb0)
        have e2 : wr.cell? ⟨w.heap.size, k, none⟩ = some (.int .u8 0) := by rw [hcr.out k hlt]; simp
        have e3 := hfr.out k hlt
        obtain ⟨z, hzv⟩ : ∃ z, z = zs.getD k 0 := ⟨_, rfl⟩
        rw [← hzv] at e1
        have HV : Hid (z = zs.getD k 0) := hzv
        clear hzv
        have hkn : (k : Int) < (n : Int) := by omega
        go_wp2
        go_roundw
        case rel =>
          refine ⟨k + 1, by omega, by go_num, ht.setCell (Nat.le_refl _) (by simp) _, fun i hi => ?_, fun i hi => by rw [World.frozen?_setCell]; exact hfr.out i hi⟩
          by_cases e : i = k
          · subst e
            rw [World.cell?_setCell_same _ _ _ e2, if_pos (by omega), HV.out]
          · rw [World.cell?_setCell_other _ _ _ _ (fun h => e (by have := congrArg Addr.off h; simp at this; omega)), hcr.out i hi]
            by_cases h1 : i < k
            · simp [h1, show i < k + 1 from by omega]
            · simp [h1, show ¬ i < k + 1 from by omega]
        case measure => simp [intOf]; omega
      · have e : k = n := by omega
        subst e
        go_wp2
        go_ret
        refine ⟨rfl, hB.trans (ht.toBelow hB.size (Nat.le_refl _)), .inr ⟨w.heap.size, 0, rfl, Nat.le_refl _, Nat.lt_of_lt_of_le hlt1 ht.size, fun i hi => ?_, fun i hi => ?_⟩⟩
        · rw [Nat.zero_add, hcr.out i (by omega), if_pos (by omega)]
        · rw [Nat.zero_add]; exact hfr.out i (by omega)

end Go.Proofs.Ytonngopnhpmjaaa

/-
  The contracts of PackStub and of its model: both make the same bytes, in new memory, with the same code.
-/
namespace Go.Proofs.Ytonngopnhpmjaaa
open Go.RowKit

def stubB (p s : Int) : Bool := inW p 0 11 && inW s 0 15
def stubCode (p s : Int) : Int := if stubB p s = true then 0 else 3
def stubBytes (p s : Int) : List Int := if stubB p s = true then [1, p, s] else []
theorem stubBytes_small (p s : Int) : (stubBytes p s).length ≤ 3 := by unfold stubBytes; split <;> simp

theorem bytesIn_three {lo hi b : Nat} {w : World} {x y z : Int} (hlo : lo ≤ b) (hhi : b < hi) (h0 : w.cell? ⟨b, 0, none⟩ = some (.int .u8 x)) (h1 : w.cell? ⟨b, 1, none⟩ = some (.int .u8 y)) (h2 : w.cell? ⟨b, 2, none⟩ = some (.int .u8 z))
    (f0 : w.frozen? ⟨b, 0, none⟩ = false) (f1 : w.frozen? ⟨b, 1, none⟩ = false) (f2 : w.frozen? ⟨b, 2, none⟩ = false) : BytesIn lo hi w (some ⟨b, 0, none⟩) [x, y, z] := by
  refine .inr ⟨b, 0, rfl, hlo, hhi, fun i hi => ?_, fun i hi => ?_⟩
  · match i, hi with
    | 0, _ => exact h0
    | 1, _ => exact h1
    | 2, _ => exact h2
  · match i, hi with
    | 0, _ => exact f0
    | 1, _ => exact f1
    | 2, _ => exact f2

theorem inW_bounds {n lo hi : Int} (h : inW n lo hi = true) : lo ≤ n ∧ n ≤ hi := by simpa [inW] using h

set_option maxHeartbeats 400000 in
theorem l1Place_any (p s : Int) (w : World) : Calls Try.prog 177 #[.int .i64 p, .int .i64 s] w fun e w' => e = .returned (.bool (stubB p s)) ∧ w' = w := by
  cases h1 : inW p 0 11
  · have e0 : stubB p s = false := by simp [stubB, h1]
    rw [e0]
    clear e0
    go_enter Try.func177, Try.ntmps177
    go_wp2_with (go_at_call 110; refine (l1InW_any _ _ _ _).mono ?_; rintro e w' ⟨rfl, rfl⟩)
    go_ret
    exact ⟨rfl, rfl⟩
  · have e0 : stubB p s = inW s 0 15 := by simp [stubB, h1]
    rw [e0]
    clear e0
    go_enter Try.func177, Try.ntmps177
    go_wp2_with (go_at_call 110; refine (l1InW_any _ _ _ _).mono ?_; rintro e w' ⟨rfl, rfl⟩)
    go_ret
    exact ⟨rfl, rfl⟩

end Go.Proofs.Ytonngopnhpmjaaa
