/-
  The contract of hasCommonByte: have two cells a byte in common?
-/
import Derived.Test.YtcjkjenebnodbaaDoorSDNew

namespace Go.Proofs.YtcjkjenebnodbaaDoor.Dr
open Go.RowKit
set_option linter.unusedVariables false

/-- Is place i one of the cell of slot s? -/
def inB (zs : List Int) (s i : Nat) : Bool := decide (nb zs (2 + 2 * s) ≤ i) && decide (i < nb zs (2 + 2 * s) + nb zs (3 + 2 * s))
/-- Is it one of a cell of the first k slots? -/
def usedB (zs : List Int) : Nat → Nat → Bool
  | 0, _ => false
  | k + 1, i => usedB zs k i || inB zs k i
/-- Has the cell of slot k a byte in common with one ahead? -/
def hitB (zs : List Int) (k : Nat) : Bool := (List.range 64).any fun i => inB zs k i && usedB zs k i
/-- Have two cells of the first k slots a byte in common? -/
def comB (zs : List Int) : Nat → Bool
  | 0 => false
  | k + 1 => comB zs k || hitB zs k

theorem comB_more (zs : List Int) (k : Nat) (h : comB zs k = true) : ∀ m, comB zs (k + m) = true
  | 0 => h
  | m + 1 => by rw [← Nat.add_assoc, comB, comB_more zs k h m]; rfl

/-- Block b holds 64 bools that may be written. -/
def Flags (w : World) (b : Nat) (u : Nat → Bool) : Prop := ∀ i, i < 64 → w.cell? ⟨b, i, none⟩ = some (.bool (u i)) ∧ w.frozen? ⟨b, i, none⟩ = false
theorem Flags.lt {w : World} {b : Nat} {u : Nat → Bool} (h : Flags w b u) : b < w.heap.size := World.block_lt_of_cell? w _ (h 0 (by omega)).1
theorem Flags.grown {w w' : World} {b : Nat} {u : Nat → Bool} (h : Flags w b u) (hb : Below w.heap.size w w') : Flags w' b u := fun i hi =>
  ⟨(hb.cell (p := ⟨b, i, none⟩) h.lt).trans (h i hi).1, (hb.frozen (p := ⟨b, i, none⟩) h.lt).trans (h i hi).2⟩
theorem Flags.set {w : World} {b : Nat} {u v : Nat → Bool} (h : Flags w b u) (a : Nat) (hv : ∀ i, i < 64 → v i = if i = a then true else u i) : Flags (w.setCell ⟨b, a, none⟩ (.bool true)) b v := fun i hi => by
  refine ⟨?_, by rw [World.frozen?_setCell]; exact (h i hi).2⟩
  rw [hv i hi]
  by_cases e : i = a
  · subst e
    rw [World.cell?_setCell_same _ _ _ (h i hi).1, if_pos rfl]
  · rw [World.cell?_setCell_other _ _ _ _ (fun h => e (by have := congrArg Addr.off h; simp at this; omega)), (h i hi).1, if_neg e]
theorem Flags.to {w : World} {b : Nat} {u v : Nat → Bool} (h : Flags w b u) (hv : ∀ i, i < 64 → v i = u i) : Flags w b v := fun i hi => by rw [hv i hi]; exact h i hi

theorem falses (i : Nat) (h : i < 64) : (Array.replicate 64 (Value.bool false))[i]? = some (.bool false) := by rw [Array.getElem?_replicate, if_pos h]

end Go.Proofs.YtcjkjenebnodbaaDoor.Dr

/-
  The contract of fault: the fault of a page as the program asks it.
-/
namespace Go.Proofs.YtcjkjenebnodbaaDoor.Dr
open Go.RowKit
set_option linter.unusedVariables false

def headB (zs : List Int) : Bool := decide (16 < nb zs 0) || decide (nb zs 1 < 2 + 2 * nb zs 0) || decide (64 < nb zs 1)
def wrgS (zs : List Int) (s : Nat) : Bool := wrongB (nb zs 1) (nb zs (2 + 2 * s)) (nb zs (3 + 2 * s))
/-- Is one of the first k slots wrong? -/
def wrgN (zs : List Int) : Nat → Bool
  | 0 => false
  | k + 1 => wrgN zs k || wrgS zs k
def faultP (zs : List Int) : Int := if headB zs = true then 3 else if wrgN zs (nb zs 0) = true then 3 else if (comB zs (nb zs 0) || endB zs) = true then 8 else 0

theorem wrgN_more (zs : List Int) (k : Nat) (h : wrgN zs k = true) : ∀ m, wrgN zs (k + m) = true
  | 0 => h
  | m + 1 => by rw [← Nat.add_assoc, wrgN, wrgN_more zs k h m]; rfl
theorem wrgN_at (zs : List Int) : ∀ k, wrgN zs k = false → ∀ s, s < k → wrgS zs s = false
  | 0, _, s, hs => by omega
  | k + 1, h, s, hs => by
    rw [wrgN, Bool.or_eq_false_iff] at h
    by_cases e : s = k
    · rw [e]; exact h.2
    · exact wrgN_at zs k h.1 s (by omega)
theorem wrongB_end (low p l : Nat) (h : wrongB low p l = false) : p + l ≤ 64 := by
  unfold wrongB at h
  by_cases h1 : p = 0 ∧ l = 0
  · omega
  · have : (p == 0 && l == 0) = false := by simp; omega
    rw [this] at h
    simp at h
    omega

def PgS (w : World) (zs : List Int) (V : World) : Prop := Arr V w.heap.size zs ∧ Below w.heap.size w V
theorem pgKeep {w : World} {zs : List Int} {W V : World} (h : PgS w zs W) (hb : Below W.heap.size W V) : PgS w zs V := ⟨h.1.grown hb, h.2.trans (hb.mono h.2.size)⟩

end Go.Proofs.YtcjkjenebnodbaaDoor.Dr

/-
  The contracts of the model's l2Count, l2Low, l2Place, l2Size, l2Slot, l2Apart: they read a page and leave all as it is.
-/
namespace Go.Proofs.YtcjkjenebnodbaaDoor.Dr
open Go.RowKit
set_option linter.unusedVariables false

theorem Reads.page {w : World} {a : Option Addr} {zs : List Int} (hr : Reads w a zs) (h : IsPg zs) : ∃ b off, a = some ⟨b, off, none⟩ ∧ ∀ i, i < 64 → w.cell? ⟨b, off + i, none⟩ = some (.int .u8 (nb zs i)) := by
  rcases hr with hr | ⟨b, off, ha, hc⟩
  · have := h.len; rw [hr] at this; simp at this
  · exact ⟨b, off, ha, fun i hi => by rw [hc i (by rw [h.len]; exact hi)]; exact congrArg (fun z => some (Value.int .u8 z)) (nb_byt h i)⟩

set_option maxHeartbeats 400000 in
theorem l2Count_any (a : Option Addr) (zs : List Int) (c : Nat) (w : World) (hr : Reads w a zs) (h : IsPg zs) :
    Calls Tryd.prog 87 #[.slice a 64 c] w fun e w' => e = .returned (.int .i64 (nb zs 0)) ∧ w' = w := by
  obtain ⟨b, off, rfl, hc⟩ := hr.page h
  have c0 := hc 0 (by omega)
  have b0 := nb_lt h 0
  rw [Nat.add_zero] at c0
  clear hc
  go_enter Tryd.func87, Tryd.ntmps87
  go_wp2_with fail
  go_ret
  exact ⟨rfl, rfl⟩

set_option maxHeartbeats 400000 in
theorem l2Low_any (a : Option Addr) (zs : List Int) (c : Nat) (w : World) (hr : Reads w a zs) (h : IsPg zs) :
    Calls Tryd.prog 92 #[.slice a 64 c] w fun e w' => e = .returned (.int .i64 (nb zs 1)) ∧ w' = w := by
  obtain ⟨b, off, rfl, hc⟩ := hr.page h
  have c0 := hc 1 (by omega)
  have b0 := nb_lt h 1
  clear hc
  go_enter Tryd.func92, Tryd.ntmps92
  go_wp2_with fail
  go_ret
  exact ⟨rfl, rfl⟩

set_option maxHeartbeats 400000 in
theorem l2Place_any (a : Option Addr) (zs : List Int) (c s : Nat) (w : World) (hr : Reads w a zs) (h : IsPg zs) (hs : s < 31) :
    Calls Tryd.prog 90 #[.slice a 64 c, .int .i64 s] w fun e w' => e = .returned (.int .i64 (nb zs (2 + 2 * s))) ∧ w' = w := by
  obtain ⟨b, off, rfl, hc⟩ := hr.page h
  have c0 := hc (2 + 2 * s) (by omega)
  have b0 := nb_lt h (2 + 2 * s)
  have i0 : (2 : Int) + 2 * (s : Int) < 64 := by omega
  have e0 : ((2 : Int) + 2 * (s : Int)).toNat = 2 + 2 * s := by omega
  clear hc
  go_enter Tryd.func90, Tryd.ntmps90
  go_wp2_with fail
  go_ret
  exact ⟨rfl, rfl⟩

set_option maxHeartbeats 400000 in
theorem l2Size_any (a : Option Addr) (zs : List Int) (c s : Nat) (w : World) (hr : Reads w a zs) (h : IsPg zs) (hs : s < 30) :
    Calls Tryd.prog 88 #[.slice a 64 c, .int .i64 s] w fun e w' => e = .returned (.int .i64 (nb zs (3 + 2 * s))) ∧ w' = w := by
  obtain ⟨b, off, rfl, hc⟩ := hr.page h
  have c0 := hc (3 + 2 * s) (by omega)
  have b0 := nb_lt h (3 + 2 * s)
  have i0 : (3 : Int) + 2 * (s : Int) < 64 := by omega
  have e0 : ((3 : Int) + 2 * (s : Int)).toNat = 3 + 2 * s := by omega
  clear hc
  go_enter Tryd.func88, Tryd.ntmps88
  go_wp2_with fail
  go_ret
  exact ⟨rfl, rfl⟩

/-- Have the cells of slots i and k no byte in common? -/
def apartB (zs : List Int) (i k : Nat) : Bool := (nb zs (3 + 2 * i) == 0 || nb zs (3 + 2 * k) == 0) || (decide (nb zs (2 + 2 * i) + nb zs (3 + 2 * i) ≤ nb zs (2 + 2 * k)) || decide (nb zs (2 + 2 * k) + nb zs (3 + 2 * k) ≤ nb zs (2 + 2 * i)))

theorem used_iff (zs : List Int) (x : Nat) : ∀ k, usedB zs k x = true ↔ ∃ s, s < k ∧ inB zs s x = true
  | 0 => by simp [usedB]
  | k + 1 => by
    rw [usedB, Bool.or_eq_true, used_iff zs x k]
    constructor
    · rintro (⟨s, h1, h2⟩ | h)
      · exact ⟨s, by omega, h2⟩
      · exact ⟨k, by omega, h⟩
    · rintro ⟨s, h1, h2⟩
      by_cases e : s = k
      · exact .inr (by rw [← e]; exact h2)
      · exact .inl ⟨s, by omega, h2⟩
theorem in_iff (zs : List Int) (s x : Nat) : inB zs s x = true ↔ nb zs (2 + 2 * s) ≤ x ∧ x < nb zs (2 + 2 * s) + nb zs (3 + 2 * s) := by simp [inB]
theorem apart_iff (zs : List Int) (i k : Nat) : apartB zs i k = false ↔ nb zs (3 + 2 * i) ≠ 0 ∧ nb zs (3 + 2 * k) ≠ 0 ∧ nb zs (2 + 2 * k) < nb zs (2 + 2 * i) + nb zs (3 + 2 * i) ∧ nb zs (2 + 2 * i) < nb zs (2 + 2 * k) + nb zs (3 + 2 * k) := by
  simp [apartB, and_assoc]

theorem hit_of (zs : List Int) (i k : Nat) (hk : k < i) (hl : nb zs (2 + 2 * i) + nb zs (3 + 2 * i) ≤ 64) (ha : apartB zs i k = false) : hitB zs i = true := by
  obtain ⟨h1, h2, h3, h4⟩ := (apart_iff zs i k).1 ha
  unfold hitB
  rw [List.any_eq_true]
  refine ⟨max (nb zs (2 + 2 * i)) (nb zs (2 + 2 * k)), by simp; omega, ?_⟩
  rw [Bool.and_eq_true]
  exact ⟨(in_iff zs i _).2 (by omega), (used_iff zs _ i).2 ⟨k, hk, (in_iff zs k _).2 (by omega)⟩⟩
theorem not_hit (zs : List Int) (i : Nat) (ha : ∀ k, k < i → apartB zs i k = true) : hitB zs i = false := by
  cases hh : hitB zs i
  · rfl
  · unfold hitB at hh
    rw [List.any_eq_true] at hh
    obtain ⟨x, _, hx⟩ := hh
    rw [Bool.and_eq_true] at hx
    obtain ⟨s, hs, hin⟩ := (used_iff zs x i).1 hx.2
    have h1 := (in_iff zs i x).1 hx.1
    have h2 := (in_iff zs s x).1 hin
    have h3 := (apart_iff zs i s).2 ⟨by omega, by omega, by omega, by omega⟩
    rw [ha s hs] at h3
    cases h3

end Go.Proofs.YtcjkjenebnodbaaDoor.Dr
