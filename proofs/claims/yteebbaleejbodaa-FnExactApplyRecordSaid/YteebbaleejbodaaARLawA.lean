/-
  The law FnExactPageFault answers true at all bytes.
-/
import Derived.Test.YteebbaleejbodaaARModF
import Derived.Test.YteebbaleejbodaaARRdw

namespace Go.Proofs.Yteebbaleejbodaa
open Go.RowKit
set_option linter.unusedVariables false

/-- The fault of bytes, and the page that the program goes on with. -/
def fltOf (zs : List Int) : Int := if zs.length = 64 then faultP zs else 1
def pg (zs : List Int) : List Int := if zs.length = 64 then zs else filled 0 0
theorem pg_len (zs : List Int) : (pg zs).length = 64 := by
  unfold pg
  split
  · assumption
  · rfl

theorem loadPage_all (a : Option Addr) (zs : List Int) (n c : Nat) (w : World) (hn : zs.length = n) (hm : n ≤ 1048576) (hc : n ≤ c) (hr : Reads w a zs) (hz : ∀ z ∈ zs, 0 ≤ z ∧ z ≤ 255) :
    Calls Try.prog 186 #[.slice a n c] w fun e w' => e = .returned (.tuple #[.agg (pgC (pg zs)), .int .i64 (fltOf zs)]) ∧ Below w.heap.size w w' := by
  by_cases h : n = 64
  · subst h
    rw [fltOf, if_pos hn, pg, if_pos hn]
    exact loadPage_any a zs c w hr ⟨hn, hz⟩ hc
  · rw [fltOf, if_neg (by omega), pg, if_neg (by omega)]
    exact loadPage_len a n c w h hm

theorem l2Fault_all (a : Option Addr) (zs : List Int) (n c : Nat) (w : World) (hn : zs.length = n) (hm : n ≤ 1048576) (hr : Reads w a zs) (hz : ∀ z ∈ zs, 0 ≤ z ∧ z ≤ 255) :
    Calls Try.prog 154 #[.slice a n c] w fun e w' => e = .returned (.int .i64 (fltOf zs)) ∧ w' = w := by
  by_cases h : n = 64
  · subst h
    rw [fltOf, if_pos hn]
    exact l2Fault_any a zs c w hr ⟨hn, hz⟩
  · rw [fltOf, if_neg (by omega)]
    exact l2Fault_len a n c w h hm

/-- What the walk is told of a slice of integers that came in: it is nil; or it leads to a row of cap cells, the numbers zs, each fitting its kind. -/
def IsRow (k : IntKind) (w : World) (a : Option Addr) (len cap : Nat) (zs : List Int) : Prop :=
  (a = none ∧ len = 0 ∧ cap = 0 ∧ zs = []) ∨
  ∃ x, a = some x ∧ len ≤ cap ∧ cap ≤ maxLen ∧ zs.length = cap ∧ (∀ i, i < zs.length → w.cell? (x.add i) = some (.int k (zs.getD i 0))) ∧ ∀ n ∈ zs, (Lit.int k n).wf = true

theorem isRow_reads {w : World} {a : Option Addr} {len cap : Nat} {zs : List Int} (h : IsRow .u8 w a len cap zs) : (zs.take len).length = len ∧ len ≤ cap ∧ Reads w a (zs.take len) ∧ ∀ z ∈ zs.take len, 0 ≤ z ∧ z ≤ 255 := by
  rcases h with ⟨rfl, rfl, rfl, rfl⟩ | ⟨x, rfl, hl, hm, hz, hc, hw⟩
  · exact ⟨rfl, Nat.le_refl _, .inl rfl, fun z hz => by simp at hz⟩
  · refine ⟨by simp; omega, hl, ?_, fun z hzz => ?_⟩
    · by_cases h0 : len = 0
      · exact .inl (by simp [h0])
      · obtain ⟨b, off, spot⟩ := x
        have hc0 := hc 0 (by omega)
        have hspot : spot = none := by simpa [Addr.add] using World.cell?_spot hc0
        subst hspot
        refine .inr ⟨b, off, rfl, fun i hi => ?_⟩
        have hil : i < len := by simp at hi; omega
        have e := hc i (by omega)
        have ea : (⟨b, off, none⟩ : Addr).add i = ⟨b, off + i, none⟩ := by unfold Addr.add; split <;> simp_all
        rw [ea] at e
        rw [e]
        simp [List.getD, hil]
    · have := hw z (List.mem_of_mem_take hzz)
      exact bounds_u8 this

end Go.Proofs.Yteebbaleejbodaa

/-
  Plain facts: in a page without a fault the cells and the directory together are not longer than the page.
-/
namespace Go.Proofs.Yteebbaleejbodaa
open Go.RowKit
set_option linter.unusedVariables false

/-- How many of the first m places are so? -/
def cN (f : Nat → Bool) : Nat → Nat
  | 0 => 0
  | m + 1 => cN f m + if f m = true then 1 else 0

theorem cN_or (f g : Nat → Bool) : ∀ m, (∀ i, i < m → ¬ (f i = true ∧ g i = true)) → cN (fun i => f i || g i) m = cN f m + cN g m
  | 0, _ => rfl
  | m + 1, h => by
    rw [cN, cN, cN, cN_or f g m (fun i hi => h i (by omega))]
    have := h m (by omega)
    cases hf : f m <;> cases hg : g m <;> simp_all <;> omega
theorem cN_mono (f g : Nat → Bool) : ∀ m, (∀ i, i < m → f i = true → g i = true) → cN f m ≤ cN g m
  | 0, _ => Nat.le_refl _
  | m + 1, h => by
    rw [cN, cN]
    have h1 := cN_mono f g m (fun i hi => h i (by omega))
    have h2 := h m (by omega)
    cases hf : f m
    · simp; omega
    · simp [h2 hf]; omega
theorem cN_in (p l : Nat) : ∀ m, cN (fun i => decide (p ≤ i) && decide (i < p + l)) m = min m (p + l) - min m p
  | 0 => by simp [cN]
  | m + 1 => by
    rw [cN, cN_in p l m]
    by_cases h : p ≤ m ∧ m < p + l
    · rw [if_pos (by simp [h])]; omega
    · rw [if_neg (by simpa using h)]; omega
theorem cN_ge (p : Nat) : ∀ m, cN (fun i => decide (p ≤ i)) m = m - p
  | 0 => by simp [cN]
  | m + 1 => by
    rw [cN, cN_ge p m]
    by_cases h : p ≤ m
    · rw [if_pos (by simpa using h)]; omega
    · rw [if_neg (by simpa using h)]; omega

/-- What a page without a fault is. -/
structure Fine (zs : List Int) : Prop where
  pg : IsPg zs
  few : nb zs 0 ≤ 16
  dir : 2 + 2 * nb zs 0 ≤ nb zs 1
  low : nb zs 1 ≤ 64
  ok : ∀ s, s < nb zs 0 → wrgS zs s = false
  com : comB zs (nb zs 0) = false
  ends : endB zs = false

theorem fine_of {zs : List Int} (hz : ∀ z ∈ zs, 0 ≤ z ∧ z ≤ 255) (h : fltOf zs = 0) : Fine zs := by
  unfold fltOf at h
  split at h
  · rename_i hl
    unfold faultP at h
    split at h
    · cases h
    · rename_i h1
      split at h
      · cases h
      · rename_i h2
        split at h
        · cases h
        · rename_i h3
          simp only [headB, Bool.or_eq_true, decide_eq_true_eq, not_or, Nat.not_lt] at h1
          simp only [Bool.or_eq_true, not_or, Bool.not_eq_true] at h3
          exact ⟨⟨hl, hz⟩, h1.1.1, h1.1.2, h1.2, wrgN_at zs _ (by simpa using h2), h3.1, h3.2⟩
  · cases h

theorem Fine.place {zs : List Int} (h : Fine zs) (s : Nat) (hs : s < nb zs 0) : (nb zs (2 + 2 * s) = 0 ∧ nb zs (3 + 2 * s) = 0) ∨ (nb zs (2 + 2 * s) ≠ 0 ∧ nb zs (3 + 2 * s) ≠ 0 ∧ nb zs 1 ≤ nb zs (2 + 2 * s) ∧ nb zs (2 + 2 * s) + nb zs (3 + 2 * s) ≤ 64) := by
  have h1 := h.ok s hs
  unfold wrgS wrongB at h1
  by_cases e : nb zs (2 + 2 * s) = 0 ∧ nb zs (3 + 2 * s) = 0
  · exact .inl e
  · have : (nb zs (2 + 2 * s) == 0 && nb zs (3 + 2 * s) == 0) = false := by simp; omega
    rw [this] at h1
    simp at h1
    exact .inr (by omega)
theorem Fine.end64 {zs : List Int} (h : Fine zs) (s : Nat) (hs : s < nb zs 0) : nb zs (2 + 2 * s) + nb zs (3 + 2 * s) ≤ 64 := by rcases h.place s hs with h1 | h1 <;> omega

theorem comB_at (zs : List Int) : ∀ k, comB zs k = false → ∀ s, s < k → hitB zs s = false
  | 0, _, s, hs => by omega
  | k + 1, h, s, hs => by
    rw [comB, Bool.or_eq_false_iff] at h
    by_cases e : s = k
    · rw [e]; exact h.2
    · exact comB_at zs k h.1 s (by omega)

theorem Fine.count {zs : List Int} (h : Fine zs) : ∀ k, k ≤ nb zs 0 → cN (usedB zs k) 64 = lens zs k
  | 0, _ => by
    have : ∀ m, cN (usedB zs 0) m = 0 := fun m => by
      induction m with
      | zero => rfl
      | succ m ih => rw [cN, ih]; rfl
    exact this 64
  | k + 1, hk => by
    have e : usedB zs (k + 1) = fun i => usedB zs k i || inB zs k i := by funext i; rfl
    have hh := comB_at zs _ h.com k (by omega)
    have he := h.end64 k (by omega)
    rw [e, cN_or, h.count k (by omega), lens]
    · congr 1
      have := cN_in (nb zs (2 + 2 * k)) (nb zs (3 + 2 * k)) 64
      show cN (fun i => decide (nb zs (2 + 2 * k) ≤ i) && decide (i < nb zs (2 + 2 * k) + nb zs (3 + 2 * k))) 64 = _
      rw [this]
      omega
    · intro i hi hc
      unfold hitB at hh
      rw [List.any_eq_false] at hh
      have := hh i (by simpa using hi)
      rw [hc.1, hc.2] at this
      simp at this

theorem Fine.sum {zs : List Int} (h : Fine zs) : 2 + 2 * nb zs 0 + lens zs (nb zs 0) ≤ 64 := by
  have h1 := cN_mono (usedB zs (nb zs 0)) (fun i => decide (nb zs 1 ≤ i)) 64 (fun i hi hu => by
    obtain ⟨s, hs, hin⟩ := (used_iff zs i _).1 hu
    have h2 := (in_iff zs s i).1 hin
    rcases h.place s hs with h3 | h3
    · omega
    · simp; omega)
  rw [cN_ge, h.count _ (Nat.le_refl _)] at h1
  have h2 := h.dir
  have h3 := h.low
  omega

end Go.Proofs.Yteebbaleejbodaa

/-
  The law FnExactFreeIn answers true at all bytes.
-/
namespace Go.Proofs.Yteebbaleejbodaa
open Go.RowKit
set_option linter.unusedVariables false

def freeN (zs : List Int) : Nat := 62 - 2 * nb zs 0 - lens zs (nb zs 0)
def freeOf (zs : List Int) : Int := if fltOf zs = 0 then (freeN zs : Int) else 0

/-- Block b holds the two cells of an IntResult, and may be written. -/
structure IRes (w : World) (b : Nat) (q v : Int) : Prop where
  c0 : w.cell? ⟨b, 0, none⟩ = some (.int .i64 q)
  c1 : w.cell? ⟨b, 1, none⟩ = some (.int .i64 v)
  f0 : w.frozen? ⟨b, 0, none⟩ = false
  f1 : w.frozen? ⟨b, 1, none⟩ = false
theorem IRes.lt {b : Nat} {w : World} {q v : Int} (h : IRes w b q v) : b < w.heap.size := World.block_lt_of_cell? w _ h.c0
theorem IRes.below {b : Nat} {w w' : World} {q v : Int} (h : IRes w b q v) (hb : Below w.heap.size w w') : IRes w' b q v :=
  ⟨(hb.cell (p := ⟨b, 0, none⟩) h.lt).trans h.c0, (hb.cell (p := ⟨b, 1, none⟩) h.lt).trans h.c1, (hb.frozen (p := ⟨b, 0, none⟩) h.lt).trans h.f0, (hb.frozen (p := ⟨b, 1, none⟩) h.lt).trans h.f1⟩

def freeV (zs : List Int) : Value := .agg #[.int .i64 (fltOf zs), .int .i64 (freeOf zs)]

end Go.Proofs.Yteebbaleejbodaa

/-
  The contracts of cellAt and of the model's l2Has: is there a cell in a slot?
-/
namespace Go.Proofs.Yteebbaleejbodaa
open Go.RowKit
set_option linter.unusedVariables false

/-- Is n from lo to hi? -/
def inR (n lo hi : Int) : Bool := decide (lo ≤ n) && decide (n ≤ hi)

set_option maxHeartbeats 400000 in
theorem isWithin_any (n lo hi : Int) (w : World) : Calls Try.prog 144 #[.int .i64 n, .int .i64 lo, .int .i64 hi] w fun e w' => e = .returned (.bool (inR n lo hi)) ∧ w' = w := by
  by_cases h1 : lo ≤ n
  · have d1 : decide (lo ≤ n) = true := by simpa using h1
    have e1 : inR n lo hi = decide (n ≤ hi) := by simp [inR, h1]
    rw [e1]
    go_enter Try.func144, Try.ntmps144
    go_wp2
    go_ret
    exact ⟨rfl, rfl⟩
  · have d1 : decide (lo ≤ n) = false := by simpa using h1
    have e1 : inR n lo hi = false := by simp [inR, h1]
    rw [e1]
    go_enter Try.func144, Try.ntmps144
    go_wp2
    go_ret
    exact ⟨rfl, rfl⟩

set_option maxHeartbeats 400000 in
theorem l1In_any (n lo hi : Int) (w : World) : Calls Try.prog 110 #[.int .i64 n, .int .i64 lo, .int .i64 hi] w fun e w' => e = .returned (.bool (inR n lo hi)) ∧ w' = w := by
  by_cases h1 : lo ≤ n
  · have d1 : decide (lo ≤ n) = true := by simpa using h1
    have e1 : inR n lo hi = decide (n ≤ hi) := by simp [inR, h1]
    rw [e1]
    go_enter Try.func110, Try.ntmps110
    go_wp2
    go_ret
    exact ⟨rfl, rfl⟩
  · have d1 : decide (lo ≤ n) = false := by simpa using h1
    have e1 : inR n lo hi = false := by simp [inR, h1]
    rw [e1]
    go_enter Try.func110, Try.ntmps110
    go_wp2
    go_ret
    exact ⟨rfl, rfl⟩

/-- Has slot x a cell? -/
def hasC (zs : List Int) (x : Int) : Bool := inR x 0 (nb zs 0 - 1) && !(empB zs x.toNat)

def CeS (w : World) (x y p l : Nat) (V : World) : Prop := (∃ a b : Int, V.cell? ⟨x, 0, none⟩ = some (.int .u64 a) ∧ V.cell? ⟨x, 1, none⟩ = some (.int .u64 b)) ∧ V.frozen? ⟨x, 0, none⟩ = false ∧ V.frozen? ⟨x, 1, none⟩ = false ∧ V.cell? ⟨y, 0, none⟩ = some (.int .u64 p) ∧ V.cell? ⟨y, 1, none⟩ = some (.int .u64 l) ∧ Below w.heap.size w V
theorem ceKeep {w : World} {x y p l : Nat} {W V : World} (h : CeS w x y p l W) (hb : Below W.heap.size W V) : CeS w x y p l V := by
  obtain ⟨⟨a, b, h1, h2⟩, h3, h4, h5, h6, h7⟩ := h
  have hx : x < W.heap.size := World.block_lt_of_cell? W _ h1
  have hy : y < W.heap.size := World.block_lt_of_cell? W _ h5
  exact ⟨⟨a, b, (hb.cell (p := ⟨x, 0, none⟩) hx).trans h1, (hb.cell (p := ⟨x, 1, none⟩) hx).trans h2⟩, (hb.frozen (p := ⟨x, 0, none⟩) hx).trans h3, (hb.frozen (p := ⟨x, 1, none⟩) hx).trans h4, (hb.cell (p := ⟨y, 0, none⟩) hy).trans h5, (hb.cell (p := ⟨y, 1, none⟩) hy).trans h6, h7.trans (hb.mono h7.size)⟩

set_option maxHeartbeats 1000000 in
theorem l2Has_any (a : Option Addr) (zs : List Int) (c : Nat) (x : Int) (w : World) (hr : Reads w a zs) (h : Fine zs) (hx : (Lit.int .i64 x).wf = true) :
    Calls Try.prog 179 #[.slice a 64 c, .int .i64 x] w fun e w' => e = .returned (.bool (hasC zs x)) ∧ w' = w := by
  have hc := h.few
  obtain ⟨n, hn⟩ : ∃ n, n = nb zs 0 := ⟨_, rfl⟩
  have HN : Hid (nb zs 0 = n) := hn.symm
  have HH : Hid (hasC zs x = (inR x 0 (n - 1) && !(empB zs x.toNat))) := by show _ = _; rw [hn]; rfl
  rw [← hn] at hc
  clear hn
  go_enter Try.func179, Try.ntmps179
  go_wp2_with fail
  refine (l2Count_any a zs c _ hr h.pg).mono ?_
  rintro e w' ⟨rfl, rfl⟩
  rw [HN.out]
  go_wp2_with fail
  refine (l1In_any _ _ _ _).mono ?_
  rintro e w2 ⟨rfl, rfl⟩
  cases hin : inR x 0 (n - 1)
  · have HF : Hid (hasC zs x = false) := by show _ = _; rw [HH.out, hin]; rfl
    clear hin
    go_wp2_with fail
    go_ret
    exact ⟨by rw [HF.out]; rfl, rfl⟩
  · obtain ⟨s, hs⟩ : ∃ s : Nat, x = (s : Int) := by
      simp [inR] at hin
      exact ⟨x.toNat, by omega⟩
    subst hs
    have hsn : s < n := by simp [inR] at hin; omega
    have HF : Hid (hasC zs (s : Int) = decide ((0 : Int) < (nb zs (3 + 2 * s) : Int))) := by
      show _ = _
      rw [HH.out, hin, Int.toNat_natCast, Bool.true_and]
      rcases h.place s (by rw [HN.out]; exact hsn) with ⟨h1, h2⟩ | ⟨h1, h2, _⟩
      · simp [empB, h1, h2]
      · have : empB zs s = false := by simp [empB, h2]
        rw [this]
        simp
        omega
    clear hin HH
    go_wp2_with fail
    refine (l2Size_any a zs c s _ hr h.pg (by omega)).mono ?_
    rintro e w' ⟨rfl, rfl⟩
    obtain ⟨l, hl⟩ : ∃ l, l = nb zs (3 + 2 * s) := ⟨_, rfl⟩
    rw [← hl] at HF ⊢
    clear hl
    go_wp2_with fail
    go_ret
    exact ⟨by rw [HF.out]; simp, rfl⟩

end Go.Proofs.Yteebbaleejbodaa

/-
  The contracts of bytes.Clone and of the model's l2Cell: the bytes of a cell, in new memory.
-/
namespace Go.Proofs.Yteebbaleejbodaa
open Go.RowKit
set_option linter.unusedVariables false

theorem reads_at {w : World} {b off : Nat} {zs : List Int} (h : Reads w (some ⟨b, off, none⟩) zs) (i : Nat) (hi : i < zs.length) : w.cell? ⟨b, off + i, none⟩ = some (.int .u8 (zs.getD i 0)) := by
  rcases h with h | ⟨b', off', ha, hc⟩
  · rw [h] at hi; simp at hi
  · simp only [Option.some.injEq, Addr.mk.injEq, and_true] at ha
    obtain ⟨rfl, rfl⟩ := ha
    exact hc i hi

/-- What wpList_append_own asks of the bytes that are appended. -/
theorem reads_src {w : World} {b off : Nat} {zs : List Int} (h : Reads w (some ⟨b, off, none⟩) zs) : ∀ j u, (zs.map (Value.int .u8))[j]? = some u → w.cell? ((⟨b, off, none⟩ : Addr).add j) = some u := by
  intro j u hu
  rw [List.getElem?_map] at hu
  cases hz : zs[j]? with
  | none => rw [hz] at hu; cases hu
  | some z =>
    rw [hz] at hu
    simp only [Option.map_some, Option.some.injEq] at hu
    subst hu
    rw [Addr.add_mid, reads_at h j (List.getElem?_eq_some_iff.1 hz).1, List.getD, hz]
    rfl

/-- The bytes of the cell of slot s. -/
def cellOf (zs : List Int) (s : Nat) : List Int := (zs.drop (nb zs (2 + 2 * s))).take (nb zs (3 + 2 * s))
theorem cellOf_length {zs : List Int} (h : Fine zs) (s : Nat) (hs : s < nb zs 0) : (cellOf zs s).length = nb zs (3 + 2 * s) := by
  have := h.end64 s hs
  have := h.pg.len
  simp [cellOf]
  omega
theorem Reads.cell {w : World} {b off : Nat} {zs : List Int} (hr : Reads w (some ⟨b, off, none⟩) zs) (p l : Nat) (hl : p + l ≤ zs.length) : Reads w (some ⟨b, off + p, none⟩) ((zs.drop p).take l) := by
  by_cases h0 : l = 0
  · exact .inl (by simp [h0])
  · refine .inr ⟨b, off + p, rfl, fun i hi => ?_⟩
    have hil : i < l := by simp at hi; omega
    rw [Nat.add_assoc, reads_at hr (p + i) (by omega)]
    simp [List.getD, hil]

set_option maxHeartbeats 1000000 in
theorem l2Cell_any (a : Option Addr) (zs : List Int) (c s : Nat) (w : World) (hr : Reads w a zs) (h : Fine zs) (hc : 64 ≤ c) (hs : s < nb zs 0) (hh : empB zs s = false) :
    Calls Try.prog 158 #[.slice a 64 c, .int .i64 s] w fun e w' => ∃ a' d, e = .returned (.slice a' (nb zs (3 + 2 * s)) d) ∧ Below w.heap.size w w' ∧ BytesIn w.heap.size w'.heap.size w' a' (cellOf zs s) := by
  obtain ⟨i0, hi, hz0, hz1, hz2⟩ := info5
  have hfew := h.few
  have hlen := cellOf_length h s hs
  have hpl := h.place s hs
  obtain ⟨b, off, rfl, hcells⟩ := hr.page h.pg
  have hb0 : b < w.heap.size := World.block_lt_of_cell? w _ (hcells 0 (by omega))
  clear hcells
  obtain ⟨p, hp⟩ : ∃ p, p = nb zs (2 + 2 * s) := ⟨_, rfl⟩
  obtain ⟨l, hl⟩ : ∃ l, l = nb zs (3 + 2 * s) := ⟨_, rfl⟩
  rw [← hp, ← hl] at hpl
  rw [← hl] at hlen ⊢
  have hsrc : Reads w (some ⟨b, off + p, none⟩) (cellOf zs s) := by unfold cellOf; rw [← hp, ← hl]; exact hr.cell p l (by rw [h.pg.len]; omega)
  have HP : Hid (nb zs (2 + 2 * s) = p) := hp.symm
  have HL : Hid (nb zs (3 + 2 * s) = l) := hl.symm
  have hne : ¬ (p = 0 ∧ l = 0) := fun e => by simp [empB, ← hp, ← hl, e.1, e.2] at hh
  have hpl2 : p ≠ 0 ∧ l ≠ 0 ∧ p + l ≤ 64 := by omega
  obtain ⟨hp0, hl0, hpl64⟩ := hpl2
  clear hp hl hpl hne hh
  generalize cellOf zs s = ys at hlen hsrc
  have hO : (w.alloc (.cells #[] 5)).ownsRow w.heap.size 5 1 (.slice (some ⟨w.heap.size, 0, none⟩) 0 0) 0 [] := by simpa using World.ownsRow_lit (base := w.heap.size) (e := 5) (size := 1) w #[] 0 (Nat.le_refl _) (by unfold maxLen; omega) rfl
  have hll : (ys.map (Value.int .u8)).length = l * 1 := by simpa using hlen
  go_enter Try.func158, Try.ntmps158
  go_wp2_with fail
  refine (l2Place_any _ zs c s _ hr h.pg (by omega)).mono ?_
  rintro e w' ⟨rfl, hw'⟩
  subst w'
  rw [HP.out]
  go_wp2_with fail
  refine (l2Size_any _ zs c s _ (hr.below (B := w.heap.size) (by go_grown) (Nat.le_refl _)) h.pg (by omega)).mono ?_
  rintro e w' ⟨rfl, hw'⟩
  subst w'
  rw [HL.out]
  have i1 : (p : Int) + (l : Int) ≤ 64 := by omega
  have i2 : (p : Int) + (l : Int) ≤ (c : Int) := by omega
  have i3 : ¬ (c = p) := by omega
  have HPP : Hid (p + l - p = l) := Nat.add_sub_cancel_left ..
  have hll2 : (ys.map (Value.int .u8)).length = (p + l - p) * 1 := by rw [HPP.out]; exact hll
  go_wp2_with (at_builtin; go_must (refine wpList_append_own _ rfl _ _ 106 rfl w.heap.size 5 i0 (.int .u8 0) 1 1 Try.underlying106 hi hz0 hz1 hz2 rfl (by decide) _ _ _ rfl hO ⟨b, off + p, none⟩ (p + l - p) (c - p) (ys.map (Value.int .u8)) rfl hll2 ?c1 ?c2 ?c3 ?c4 ?c5 ?_))
  case c1 =>
    intro j u hu
    exact reads_src (hsrc.below (B := w.heap.size) (by go_grown) (Nat.le_refl _)) j u hu
  case c2 =>
    intro u hu
    rw [List.mem_map] at hu
    obtain ⟨z, _, rfl⟩ := hu
    rfl
  case c3 => unfold maxLen; omega
  case c4 => omega
  case c5 => simp
  intro v' w1 hown' hgrow _
  have hB' : Below w.heap.size w w1 := Below.grown ((Below.refl _ _).alloc (Nat.le_refl _) _) hgrow (by simp) (fun j hj => by simp [Value.ownBlock] at hj; omega)
  clear hgrow
  go_wp2_with fail
  go_ret
  have hown : w1.ownsRow w.heap.size 5 1 v' l (ys.map (Value.int .u8)) := hown'
  obtain ⟨g, cap, rfl⟩ := Joins.ownsRow_form hown (by omega)
  exact ⟨_, _, rfl, hB', bytesIn_owns hown⟩

end Go.Proofs.Yteebbaleejbodaa

/-
  Cells of pages, told as lists.
-/
namespace Go.Proofs.Yteebbaleejbodaa
open Go.RowKit
set_option linter.unusedVariables false

/-- A cell, and where it stands. -/
structure Spt where
  p : Int
  s : Int
  c : Cel

def spE (x : Spt) : List Value := [.int .i64 x.p, .int .i64 x.s, .int .i64 x.c.q, .int .i64 x.c.f, .int .i64 x.c.p, .int .i64 x.c.l, .int .i64 x.c.t, .int .i64 x.c.k, .int .i64 x.c.v, .string x.c.s]
theorem spE_len (x : Spt) : (spE x).length = 10 := rfl

theorem unp_q (zs : List Int) : (unp zs).q = 0 ∨ (unp zs).q = 5 := by
  unfold unp
  split
  · exact .inr rfl
  · split
    · unfold stubC; split
      · exact .inl rfl
      · exact .inr rfl
    · split
      · unfold rowC; split
        · exact .inl rfl
        · exact .inr rfl
      · exact .inr rfl

/-- The cell of slot s, where there is one. -/
def oneC (p : Int) (zs : List Int) (s : Nat) : List Spt := if empB zs s = true then [] else [⟨p, s, unp (cellOf zs s)⟩]
/-- Those of the first slots. -/
def cellsTo (p : Int) (zs : List Int) : Nat → List Spt
  | 0 => []
  | k + 1 => cellsTo p zs k ++ oneC p zs k
/-- Is there one among the first slots that is no cell? -/
def badAt (zs : List Int) (k : Nat) : Bool := !(empB zs k) && decide ((unp (cellOf zs k)).q ≠ 0)
def badTo (zs : List Int) : Nat → Bool
  | 0 => false
  | k + 1 => badTo zs k || badAt zs k
/-- The code of a page and its cells. -/
def pageC (zs : List Int) : Int := if fltOf zs = 0 then (if badTo zs (nb zs 0) = true then 5 else 0) else fltOf zs
def pageL (p : Int) (zs : List Int) : List Spt := if pageC zs = 0 then cellsTo p zs (nb zs 0) else []

theorem badTo_mono (zs : List Int) : ∀ k m, badTo zs k = true → badTo zs (k + m) = true
  | _, 0, h => h
  | k, m + 1, h => by
    have := badTo_mono zs k m h
    show badTo zs (k + m + 1) = true
    simp only [badTo, this, Bool.true_or]
theorem badTo_at {zs : List Int} {k n : Nat} (h : badAt zs k = true) (hk : k < n) : badTo zs n = true := by
  obtain ⟨m, rfl⟩ : ∃ m, n = k + 1 + m := ⟨n - (k + 1), by omega⟩
  exact badTo_mono zs (k + 1) m (by simp [badTo, h])

theorem cellsTo_len (p : Int) (zs : List Int) : ∀ k, (cellsTo p zs k).length ≤ k
  | 0 => Nat.le_refl _
  | k + 1 => by
    have := cellsTo_len p zs k
    simp only [cellsTo, List.length_append]
    have : (oneC p zs k).length ≤ 1 := by unfold oneC; split <;> simp
    omega

theorem ownsRow_nil (w : World) (base e size : Nat) : w.ownsRow base e size (.slice none 0 0) 0 [] := ⟨by simp, .inl ⟨rfl, rfl⟩⟩

theorem ownsRow_ne {w : World} {base e size n g : Nat} {v : Value} {xs : List Value} {cs : Array Value} {e' : Nat} (h : w.ownsRow base e size v n xs) (hg : w.heap[g]? = some (.cells cs e')) (hne : e ≠ e') : v.ownBlock ≠ some g := by
  obtain ⟨_, ⟨rfl, _⟩ | ⟨g', cap, cur, rfl, _, hc, _⟩⟩ := h
  · simp [Value.ownBlock]
  · intro e1
    simp [Value.ownBlock] at e1
    subst e1
    rw [hc] at hg
    simp at hg
    exact hne hg.2

theorem ownsRow_below {w w' : World} {base e size n : Nat} {v : Value} {xs : List Value} (h : w.ownsRow base e size v n xs) (hb : Below w.heap.size w w') : w'.ownsRow base e size v n xs := by
  obtain ⟨hl, h1 | ⟨g, cap, cur, rfl, hbb, hc, r⟩⟩ := h
  · exact ⟨hl, .inl h1⟩
  · exact ⟨hl, .inr ⟨g, cap, cur, rfl, hbb, (hb.block g (Array.getElem?_eq_some_iff.1 hc).1).trans hc, r⟩⟩

theorem ownsRow_base {w : World} {base base' e size n : Nat} {v : Value} {xs : List Value} (h : w.ownsRow base e size v n xs) (hb : base' ≤ base) : w.ownsRow base' e size v n xs := by
  obtain ⟨hl, h1 | ⟨g, cap, cur, rfl, hbb, r⟩⟩ := h
  · exact ⟨hl, .inl h1⟩
  · exact ⟨hl, .inr ⟨g, cap, cur, rfl, Nat.le_trans hb hbb, r⟩⟩

end Go.Proofs.Yteebbaleejbodaa
