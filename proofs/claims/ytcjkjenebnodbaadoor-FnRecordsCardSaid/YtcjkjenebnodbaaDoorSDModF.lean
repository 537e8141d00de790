/-
  The contract of the model's l2Fault: the same fault.
-/
import Derived.Test.YtcjkjenebnodbaaDoorSDCom

namespace Go.Proofs.YtcjkjenebnodbaaDoor.Dr
open Go.RowKit
set_option linter.unusedVariables false
theorem endB_last (zs : List Int) (n : Nat) (hn : nb zs 0 = n) (h0 : 0 < n) (hw : wrgN zs n = false) : endB zs = (nb zs (3 + 2 * (n - 1)) == 0) := by
  have h1 := wrgN_at zs n hw (n - 1) (by omega)
  rw [endB, hn, show decide (0 < n) = true by simpa using h0, Bool.true_and, empB]
  cases e : (nb zs (3 + 2 * (n - 1)) == 0)
  · simp
  · rw [wrgS, wrongB, e] at h1
    cases e2 : (nb zs (2 + 2 * (n - 1)) == 0)
    · rw [e2] at h1; simp at h1
    · rfl

end Go.Proofs.YtcjkjenebnodbaaDoor.Dr

/-
  The contract of loadPage: a page as an array of its own, and its fault.
-/
namespace Go.Proofs.YtcjkjenebnodbaaDoor.Dr
open Go.RowKit
set_option linter.unusedVariables false

theorem pgC_one (ys : List Int) : (pgC ys).all (·.oneCell') = true := by
  unfold pgC
  exact all_oneCell_toArray (fun v hv => by
    rw [List.mem_map] at hv
    obtain ⟨z, _, rfl⟩ := hv
    rfl)
theorem Arr.put {w : World} {g : Nat} {zs ys : List Int} (h : Arr w g zs) (hl : ys.length = 64) : Arr (w.setRow g (pgC ys)) g ys := ⟨hl, setRow_heap w g _ _ _ _ h.row⟩
theorem setRow_other (w : World) (g k : Nat) (cs : Array Value) (h : k ≠ g) : (w.setRow g cs).heap[k]? = w.heap[k]? := by
  unfold World.setRow
  simp only
  rw [Array.getElem?_modify, if_neg (fun e => h e.symm)]
theorem setRow_size (w : World) (g : Nat) (cs : Array Value) : (w.setRow g cs).heap.size = w.heap.size := by unfold World.setRow; simp
theorem setRow_below {B : Nat} {w w' : World} (h : Below B w w') {g : Nat} (hg : B ≤ g) (cs : Array Value) : Below B w (w'.setRow g cs) :=
  ⟨h.os, h.tape, h.output, by rw [setRow_size]; exact h.size, fun k hk => (setRow_other w' g k cs (by omega)).trans (h.block k hk)⟩

/-- What loadPage knows while it asks for the fault. -/
def LdS (w : World) (zs : List Int) (x y : Nat) (V : World) : Prop := (∃ ys, Arr V x ys) ∧ Arr V y zs ∧ Below w.heap.size w V
theorem ldKeep {w : World} {zs : List Int} {x y : Nat} {W V : World} (h : LdS w zs x y W) (hb : Below W.heap.size W V) : LdS w zs x y V := ⟨⟨_, h.1.choose_spec.grown hb⟩, h.2.1.grown hb, h.2.2.trans (hb.mono h.2.2.size)⟩

theorem Reads.range {w : World} {b off : Nat} {zs : List Int} (hr : Reads w (some ⟨b, off, none⟩) zs) : w.rangeAt b off (zs.map (Value.int .u8)) := by
  intro j v hv
  rw [List.getElem?_map] at hv
  cases hz : zs[j]? with
  | none => rw [hz] at hv; cases hv
  | some z =>
    rw [hz] at hv
    simp only [Option.map_some, Option.some.injEq] at hv
    subst hv
    rcases hr with hr | ⟨b', off', ha, hc⟩
    · rw [hr] at hz; simp at hz
    · simp only [Option.some.injEq, Addr.mk.injEq, and_true] at ha
      obtain ⟨rfl, rfl⟩ := ha
      rw [hc j (List.getElem?_eq_some_iff.1 hz).1, List.getD, hz]
      rfl

theorem Arr.row_other {w : World} {b g : Nat} {zs : List Int} (h : Arr w b zs) (hn : b ≠ g) (cs : Array Value) : Arr (w.setRow g cs) b zs := ⟨h.len, (setRow_other w g b cs hn).trans h.row⟩

end Go.Proofs.YtcjkjenebnodbaaDoor.Dr

/-
  The law FnExactPageFault answers true at all bytes.
-/
namespace Go.Proofs.YtcjkjenebnodbaaDoor.Dr
open Go.RowKit
set_option linter.unusedVariables false

/-- The fault of bytes, and the page that the program goes on with. -/
def fltOf (zs : List Int) : Int := if zs.length = 64 then faultP zs else 1
def pg (zs : List Int) : List Int := if zs.length = 64 then zs else filled 0 0
theorem pg_len (zs : List Int) : (pg zs).length = 64 := by
  unfold pg
  split
  · assumption
  · rfl

/-- What the walk is told of a slice of integers that came in: it is nil; or it leads to a row of cap cells, the numbers zs, each fitting its kind. -/
def IsRow (k : IntKind) (w : World) (a : Option Addr) (len cap : Nat) (zs : List Int) : Prop :=
  (a = none ∧ len = 0 ∧ cap = 0 ∧ zs = []) ∨
  ∃ x, a = some x ∧ len ≤ cap ∧ cap ≤ maxLen ∧ zs.length = cap ∧ (∀ i, i < zs.length → w.cell? (x.add i) = some (.int k (zs.getD i 0))) ∧ ∀ n ∈ zs, (Lit.int k n).wf = true

theorem isRow_reads {w : World} {a : Option Addr} {len cap : Nat} {zs : List Int} (h : IsRow .u8 w a len cap zs) : (zs.take len).length = len ∧ len ≤ cap ∧ Reads w a (zs.take len) ∧ ∀ z ∈ zs.take len, 0 ≤ z ∧ z ≤ 255 := by
  rcases h with ⟨rfl, rfl, rfl, rfl⟩ | ⟨x, rfl, hl, hm, hz, hc, hw⟩
  · exact ⟨rfl, Nat.le_refl _, .inl rfl, fun z hz => by simp at hz⟩
  · refine ⟨by simp; omega, hl, ?_, fun z hzz => ?_⟩
    · by_cases h0 : len = 0
      · exact .inl (by simp [h0])
      · obtain ⟨b, off, spot⟩ := x
        have hc0 := hc 0 (by omega)
        have hspot : spot = none := by simpa [Addr.add] using World.cell?_spot hc0
        subst hspot
        refine .inr ⟨b, off, rfl, fun i hi => ?_⟩
        have hil : i < len := by simp at hi; omega
        have e := hc i (by omega)
        have ea : (⟨b, off, none⟩ : Addr).add i = ⟨b, off + i, none⟩ := by unfold Addr.add; split <;> simp_all
        rw [ea] at e
        rw [e]
        simp [List.getD, hil]
    · have := hw z (List.mem_of_mem_take hzz)
      exact bounds_u8 this

end Go.Proofs.YtcjkjenebnodbaaDoor.Dr

/-
  Plain facts: in a page without a fault the cells and the directory together are not longer than the page.
-/
namespace Go.Proofs.YtcjkjenebnodbaaDoor.Dr
open Go.RowKit
set_option linter.unusedVariables false

/-- How many of the first m places are so? -/
def cN (f : Nat → Bool) : Nat → Nat
  | 0 => 0
  | m + 1 => cN f m + if f m = true then 1 else 0

theorem cN_or (f g : Nat → Bool) : ∀ m, (∀ i, i < m → ¬ (f i = true ∧ g i = true)) → cN (fun i => f i || g i) m = cN f m + cN g m
  | 0, _ => rfl
  | m + 1, h => by
    rw [cN, cN, cN, cN_or f g m (fun i hi => h i (by omega))]
    have := h m (by omega)
    cases hf : f m <;> cases hg : g m <;> simp_all <;> omega
theorem cN_mono (f g : Nat → Bool) : ∀ m, (∀ i, i < m → f i = true → g i = true) → cN f m ≤ cN g m
  | 0, _ => Nat.le_refl _
  | m + 1, h => by
    rw [cN, cN]
    have h1 := cN_mono f g m (fun i hi => h i (by omega))
    have h2 := h m (by omega)
    cases hf : f m
    · simp; omega
    · simp [h2 hf]; omega
theorem cN_in (p l : Nat) : ∀ m, cN (fun i => decide (p ≤ i) && decide (i < p + l)) m = min m (p + l) - min m p
  | 0 => by simp [cN]
  | m + 1 => by
    rw [cN, cN_in p l m]
    by_cases h : p ≤ m ∧ m < p + l
    · rw [if_pos (by simp [h])]; omega
    · rw [if_neg (by simpa using h)]; omega
theorem cN_ge (p : Nat) : ∀ m, cN (fun i => decide (p ≤ i)) m = m - p
  | 0 => by simp [cN]
  | m + 1 => by
    rw [cN, cN_ge p m]
    by_cases h : p ≤ m
    · rw [if_pos (by simpa using h)]; omega
    · rw [if_neg (by simpa using h)]; omega

/-- What a page without a fault is. -/
structure Fine (zs : List Int) : Prop where
  pg : IsPg zs
  few : nb zs 0 ≤ 16
  dir : 2 + 2 * nb zs 0 ≤ nb zs 1
  low : nb zs 1 ≤ 64
  ok : ∀ s, s < nb zs 0 → wrgS zs s = false
  com : comB zs (nb zs 0) = false
  ends : endB zs = false

theorem fine_of {zs : List Int} (hz : ∀ z ∈ zs, 0 ≤ z ∧ z ≤ 255) (h : fltOf zs = 0) : Fine zs := by
  unfold fltOf at h
  split at h
  · rename_i hl
    unfold faultP at h
    split at h
    · cases h
    · rename_i h1
      split at h
      · cases h
      · rename_i h2
        split at h
        · cases h
        · rename_i h3
          simp only [headB, Bool.or_eq_true, decide_eq_true_eq, not_or, Nat.not_lt] at h1
          simp only [Bool.or_eq_true, not_or, Bool.not_eq_true] at h3
          exact ⟨⟨hl, hz⟩, h1.1.1, h1.1.2, h1.2, wrgN_at zs _ (by simpa using h2), h3.1, h3.2⟩
  · cases h

theorem Fine.place {zs : List Int} (h : Fine zs) (s : Nat) (hs : s < nb zs 0) : (nb zs (2 + 2 * s) = 0 ∧ nb zs (3 + 2 * s) = 0) ∨ (nb zs (2 + 2 * s) ≠ 0 ∧ nb zs (3 + 2 * s) ≠ 0 ∧ nb zs 1 ≤ nb zs (2 + 2 * s) ∧ nb zs (2 + 2 * s) + nb zs (3 + 2 * s) ≤ 64) := by
  have h1 := h.ok s hs
  unfold wrgS wrongB at h1
  by_cases e : nb zs (2 + 2 * s) = 0 ∧ nb zs (3 + 2 * s) = 0
  · exact .inl e
  · have : (nb zs (2 + 2 * s) == 0 && nb zs (3 + 2 * s) == 0) = false := by simp; omega
    rw [this] at h1
    simp at h1
    exact .inr (by omega)
theorem Fine.end64 {zs : List Int} (h : Fine zs) (s : Nat) (hs : s < nb zs 0) : nb zs (2 + 2 * s) + nb zs (3 + 2 * s) ≤ 64 := by rcases h.place s hs with h1 | h1 <;> omega

theorem comB_at (zs : List Int) : ∀ k, comB zs k = false → ∀ s, s < k → hitB zs s = false
  | 0, _, s, hs => by omega
  | k + 1, h, s, hs => by
    rw [comB, Bool.or_eq_false_iff] at h
    by_cases e : s = k
    · rw [e]; exact h.2
    · exact comB_at zs k h.1 s (by omega)

theorem Fine.count {zs : List Int} (h : Fine zs) : ∀ k, k ≤ nb zs 0 → cN (usedB zs k) 64 = lens zs k
  | 0, _ => by
    have : ∀ m, cN (usedB zs 0) m = 0 := fun m => by
      induction m with
      | zero => rfl
      | succ m ih => rw [cN, ih]; rfl
    exact this 64
  | k + 1, hk => by
    have e : usedB zs (k + 1) = fun i => usedB zs k i || inB zs k i := by funext i; rfl
    have hh := comB_at zs _ h.com k (by omega)
    have he := h.end64 k (by omega)
    rw [e, cN_or, h.count k (by omega), lens]
    · congr 1
      have := cN_in (nb zs (2 + 2 * k)) (nb zs (3 + 2 * k)) 64
      show cN (fun i => decide (nb zs (2 + 2 * k) ≤ i) && decide (i < nb zs (2 + 2 * k) + nb zs (3 + 2 * k))) 64 = _
      rw [this]
      omega
    · intro i hi hc
      unfold hitB at hh
      rw [List.any_eq_false] at hh
      have := hh i (by simpa using hi)
      rw [hc.1, hc.2] at this
      simp at this

theorem Fine.sum {zs : List Int} (h : Fine zs) : 2 + 2 * nb zs 0 + lens zs (nb zs 0) ≤ 64 := by
  have h1 := cN_mono (usedB zs (nb zs 0)) (fun i => decide (nb zs 1 ≤ i)) 64 (fun i hi hu => by
    obtain ⟨s, hs, hin⟩ := (used_iff zs i _).1 hu
    have h2 := (in_iff zs s i).1 hin
    rcases h.place s hs with h3 | h3
    · omega
    · simp; omega)
  rw [cN_ge, h.count _ (Nat.le_refl _)] at h1
  have h2 := h.dir
  have h3 := h.low
  omega

end Go.Proofs.YtcjkjenebnodbaaDoor.Dr

/-
  The law FnExactFreeIn answers true at all bytes.
-/
namespace Go.Proofs.YtcjkjenebnodbaaDoor.Dr
open Go.RowKit
set_option linter.unusedVariables false

def freeN (zs : List Int) : Nat := 62 - 2 * nb zs 0 - lens zs (nb zs 0)
def freeOf (zs : List Int) : Int := if fltOf zs = 0 then (freeN zs : Int) else 0

set_option maxHeartbeats 1000000 in
theorem l2Free_any (a : Option Addr) (zs : List Int) (c : Nat) (w : World) (hr : Reads w a zs) (h : Fine zs) :
    Calls Tryd.prog 91 #[.slice a 64 c] w fun e w' => e = .returned (.int .i64 (freeN zs)) ∧ w' = w := by
  have hc := h.few
  have hf := h.sum
  unfold freeN
  obtain ⟨n, hn⟩ : ∃ n, n = nb zs 0 := ⟨_, rfl⟩
  have HN : Hid (nb zs 0 = n) := hn.symm
  rw [← hn] at hc hf ⊢
  clear hn
  go_enter Tryd.func91, Tryd.ntmps91
  go_wp2_with fail
  refine (l2Count_any a zs c _ hr h.pg).mono ?_
  rintro e w' ⟨rfl, rfl⟩
  rw [HN.out]
  go_wp2_with fail
  go_loop [3, 4] (fun fr i => ∃ k f : Nat, k ≤ n ∧ i = .int .i64 k ∧ fr = .int .i64 f ∧ Hid (f + 2 + 2 * n + lens zs k = 64)) (fun _ i => n - (intOf i).toNat)
  case atStart => exact ⟨0, 62 - 2 * n, by omega, rfl, by go_num, by show _ = 64; simp only [lens]; omega⟩
  case round =>
    obtain ⟨k, f, hk, rfl, rfl, HF⟩ := hrel
    go_wp2_with fail
    refine (l2Count_any a zs c _ hr h.pg).mono ?_
    rintro e w' ⟨rfl, rfl⟩
    rw [HN.out]
    by_cases hlt : k < n
    · have hi : (k : Int) < (n : Int) := by omega
      have hlen : nb zs (3 + 2 * k) ≤ f := by
        have h1 := HF.out
        have h2 := lens_le zs (k + 1) (n - (k + 1))
        rw [show k + 1 + (n - (k + 1)) = n by omega, lens] at h2
        omega
      have hf64 : f ≤ 64 := by have := HF.out; omega
      go_wp2_with fail
      refine (l2Size_any a zs c k _ hr h.pg (by omega)).mono ?_
      rintro e w' ⟨rfl, rfl⟩
      obtain ⟨l, hl⟩ : ∃ l, l = nb zs (3 + 2 * k) := ⟨_, rfl⟩
      rw [← hl] at hlen ⊢
      have HL : Hid (l = nb zs (3 + 2 * k)) := hl
      clear hl
      go_wp2_with fail
      go_round
      case rel => exact ⟨k + 1, f - l, by omega, by go_num, by go_num, by show f - l + 2 + 2 * n + lens zs (k + 1) = 64; have := HF.out; have := HL.out; rw [lens]; omega⟩
      case measure => simp [intOf]; omega
    · have e : k = n := by omega
      subst e
      have HE : Hid (f = 62 - 2 * k - lens zs k) := by have := HF.out; show f = _; omega
      go_wp2_with fail
      go_ret
      exact ⟨by rw [← HE.out]; rfl, rfl⟩

/-- Block b holds the two cells of an IntResult, and may be written. -/
structure IRes (w : World) (b : Nat) (q v : Int) : Prop where
  c0 : w.cell? ⟨b, 0, none⟩ = some (.int .i64 q)
  c1 : w.cell? ⟨b, 1, none⟩ = some (.int .i64 v)
  f0 : w.frozen? ⟨b, 0, none⟩ = false
  f1 : w.frozen? ⟨b, 1, none⟩ = false
theorem IRes.lt {b : Nat} {w : World} {q v : Int} (h : IRes w b q v) : b < w.heap.size := World.block_lt_of_cell? w _ h.c0
theorem IRes.below {b : Nat} {w w' : World} {q v : Int} (h : IRes w b q v) (hb : Below w.heap.size w w') : IRes w' b q v :=
  ⟨(hb.cell (p := ⟨b, 0, none⟩) h.lt).trans h.c0, (hb.cell (p := ⟨b, 1, none⟩) h.lt).trans h.c1, (hb.frozen (p := ⟨b, 0, none⟩) h.lt).trans h.f0, (hb.frozen (p := ⟨b, 1, none⟩) h.lt).trans h.f1⟩

def freeV (zs : List Int) : Value := .agg #[.int .i64 (fltOf zs), .int .i64 (freeOf zs)]

end Go.Proofs.YtcjkjenebnodbaaDoor.Dr

/-
  The contracts of cellAt and of the model's l2Has: is there a cell in a slot?
-/
namespace Go.Proofs.YtcjkjenebnodbaaDoor.Dr
open Go.RowKit
set_option linter.unusedVariables false

/-- Is n from lo to hi? -/
def inR (n lo hi : Int) : Bool := decide (lo ≤ n) && decide (n ≤ hi)

set_option maxHeartbeats 400000 in
theorem isWithin_any (n lo hi : Int) (w : World) : Calls Tryd.prog 67 #[.int .i64 n, .int .i64 lo, .int .i64 hi] w fun e w' => e = .returned (.bool (inR n lo hi)) ∧ w' = w := by
  by_cases h1 : lo ≤ n
  · have d1 : decide (lo ≤ n) = true := by simpa using h1
    have e1 : inR n lo hi = decide (n ≤ hi) := by simp [inR, h1]
    rw [e1]
    go_enter Tryd.func67, Tryd.ntmps67
    go_wp2
    go_ret
    exact ⟨rfl, rfl⟩
  · have d1 : decide (lo ≤ n) = false := by simpa using h1
    have e1 : inR n lo hi = false := by simp [inR, h1]
    rw [e1]
    go_enter Tryd.func67, Tryd.ntmps67
    go_wp2
    go_ret
    exact ⟨rfl, rfl⟩

set_option maxHeartbeats 400000 in
theorem l1In_any (n lo hi : Int) (w : World) : Calls Tryd.prog 51 #[.int .i64 n, .int .i64 lo, .int .i64 hi] w fun e w' => e = .returned (.bool (inR n lo hi)) ∧ w' = w := by
  by_cases h1 : lo ≤ n
  · have d1 : decide (lo ≤ n) = true := by simpa using h1
    have e1 : inR n lo hi = decide (n ≤ hi) := by simp [inR, h1]
    rw [e1]
    go_enter Tryd.func51, Tryd.ntmps51
    go_wp2
    go_ret
    exact ⟨rfl, rfl⟩
  · have d1 : decide (lo ≤ n) = false := by simpa using h1
    have e1 : inR n lo hi = false := by simp [inR, h1]
    rw [e1]
    go_enter Tryd.func51, Tryd.ntmps51
    go_wp2
    go_ret
    exact ⟨rfl, rfl⟩

/-- Has slot x a cell? -/
def hasC (zs : List Int) (x : Int) : Bool := inR x 0 (nb zs 0 - 1) && !(empB zs x.toNat)

def CeS (w : World) (x y p l : Nat) (V : World) : Prop := (∃ a b : Int, V.cell? ⟨x, 0, none⟩ = some (.int .u64 a) ∧ V.cell? ⟨x, 1, none⟩ = some (.int .u64 b)) ∧ V.frozen? ⟨x, 0, none⟩ = false ∧ V.frozen? ⟨x, 1, none⟩ = false ∧ V.cell? ⟨y, 0, none⟩ = some (.int .u64 p) ∧ V.cell? ⟨y, 1, none⟩ = some (.int .u64 l) ∧ Below w.heap.size w V
theorem ceKeep {w : World} {x y p l : Nat} {W V : World} (h : CeS w x y p l W) (hb : Below W.heap.size W V) : CeS w x y p l V := by
  obtain ⟨⟨a, b, h1, h2⟩, h3, h4, h5, h6, h7⟩ := h
  have hx : x < W.heap.size := World.block_lt_of_cell? W _ h1
  have hy : y < W.heap.size := World.block_lt_of_cell? W _ h5
  exact ⟨⟨a, b, (hb.cell (p := ⟨x, 0, none⟩) hx).trans h1, (hb.cell (p := ⟨x, 1, none⟩) hx).trans h2⟩, (hb.frozen (p := ⟨x, 0, none⟩) hx).trans h3, (hb.frozen (p := ⟨x, 1, none⟩) hx).trans h4, (hb.cell (p := ⟨y, 0, none⟩) hy).trans h5, (hb.cell (p := ⟨y, 1, none⟩) hy).trans h6, h7.trans (hb.mono h7.size)⟩

set_option maxHeartbeats 1000000 in
theorem l2Has_any (a : Option Addr) (zs : List Int) (c : Nat) (x : Int) (w : World) (hr : Reads w a zs) (h : Fine zs) (hx : (Lit.int .i64 x).wf = true) :
    Calls Tryd.prog 76 #[.slice a 64 c, .int .i64 x] w fun e w' => e = .returned (.bool (hasC zs x)) ∧ w' = w := by
  have hc := h.few
  obtain ⟨n, hn⟩ : ∃ n, n = nb zs 0 := ⟨_, rfl⟩
  have HN : Hid (nb zs 0 = n) := hn.symm
  have HH : Hid (hasC zs x = (inR x 0 (n - 1) && !(empB zs x.toNat))) := by show _ = _; rw [hn]; rfl
  rw [← hn] at hc
  clear hn
  go_enter Tryd.func76, Tryd.ntmps76
  go_wp2_with fail
  refine (l2Count_any a zs c _ hr h.pg).mono ?_
  rintro e w' ⟨rfl, rfl⟩
  rw [HN.out]
  go_wp2_with fail
  refine (l1In_any _ _ _ _).mono ?_
  rintro e w2 ⟨rfl, rfl⟩
  cases hin : inR x 0 (n - 1)
  · have HF : Hid (hasC zs x = false) := by show _ = _; rw [HH.out, hin]; rfl
    clear hin
    go_wp2_with fail
    go_ret
    exact ⟨by rw [HF.out]; rfl, rfl⟩
  · obtain ⟨s, hs⟩ : ∃ s : Nat, x = (s : Int) := by
      simp [inR] at hin
      exact ⟨x.toNat, by omega⟩
    subst hs
    have hsn : s < n := by simp [inR] at hin; omega
    have HF : Hid (hasC zs (s : Int) = decide ((0 : Int) < (nb zs (3 + 2 * s) : Int))) := by
      show _ = _
      rw [HH.out, hin, Int.toNat_natCast, Bool.true_and]
      rcases h.place s (by rw [HN.out]; exact hsn) with ⟨h1, h2⟩ | ⟨h1, h2, _⟩
      · simp [empB, h1, h2]
      · have : empB zs s = false := by simp [empB, h2]
        rw [this]
        simp
        omega
    clear hin HH
    go_wp2_with fail
    refine (l2Size_any a zs c s _ hr h.pg (by omega)).mono ?_
    rintro e w' ⟨rfl, rfl⟩
    obtain ⟨l, hl⟩ : ∃ l, l = nb zs (3 + 2 * s) := ⟨_, rfl⟩
    rw [← hl] at HF ⊢
    clear hl
    go_wp2_with fail
    go_ret
    exact ⟨by rw [HF.out]; simp, rfl⟩

end Go.Proofs.YtcjkjenebnodbaaDoor.Dr
