/-
  The contract of loadPage: a page as an array of its own, and its fault.
-/
import Derived.Test.YtpoccjlngbdjlaaQDCom

namespace Go.Proofs.Ytpoccjlngbdjlaa.Dr
open Go.RowKit
set_option linter.unusedVariables false

theorem pgC_one (ys : List Int) : (pgC ys).all (·.oneCell') = true := by
  unfold pgC
  exact all_oneCell_toArray (fun v hv => by
    rw [List.mem_map] at hv
    obtain ⟨z, _, rfl⟩ := hv
    rfl)
/-- A whole page is written. -/
theorem wpList_storePg {ops : Array Oper} {rest : List Oper} {o : Oper} {a : Act} {w : World} {Q : Exit → Act → World → Prop} (hgd : o.guard = none) (x y : Operand) (ho : o.op = .store 58 x y)
    (g : Nat) (ys : List Int) (hx : a.eval x = .pointer (some ⟨g, 0, none⟩)) (hy : a.eval y = .agg (pgC ys)) (hl : ys.length = 64) (zs : List Int) (hA : Arr w g zs)
    (h : wpList Try.prog ops Q rest (a.put o.dst undef) (w.setRow g (pgC ys))) : wpList Try.prog ops Q (o :: rest) a w :=
  wpList_store_row hgd 58 x y ho g (pgC ys) hx hy 58 (pgC zs) hA.row (by rw [pgC_size, hl]; exact info57) (by rw [pgC_size, pgC_size, hA.len, hl]) (pgC_one ys) h
theorem Arr.put {w : World} {g : Nat} {zs ys : List Int} (h : Arr w g zs) (hl : ys.length = 64) : Arr (w.setRow g (pgC ys)) g ys := ⟨hl, setRow_heap w g _ _ _ _ h.row⟩
theorem setRow_other (w : World) (g k : Nat) (cs : Array Value) (h : k ≠ g) : (w.setRow g cs).heap[k]? = w.heap[k]? := by
  unfold World.setRow
  simp only
  rw [Array.getElem?_modify, if_neg (fun e => h e.symm)]
theorem setRow_size (w : World) (g : Nat) (cs : Array Value) : (w.setRow g cs).heap.size = w.heap.size := by unfold World.setRow; simp
theorem setRow_below {B : Nat} {w w' : World} (h : Below B w w') {g : Nat} (hg : B ≤ g) (cs : Array Value) : Below B w (w'.setRow g cs) :=
  ⟨h.os, h.tape, h.output, by rw [setRow_size]; exact h.size, fun k hk => (setRow_other w' g k cs (by omega)).trans (h.block k hk)⟩

theorem built57 : Try.prog.built 58 [] = some (pgC (filled 0 0)) := by kernel_rfl
/-- A page of zeros is made. -/
theorem wpList_buildPg {ops : Array Oper} {rest : List Oper} {o : Oper} {a : Act} {w : World} {Q : Exit → Act → World → Prop} (hgd : o.guard = none) (ho : o.op = .build 58 #[])
    (h : wpList Try.prog ops Q rest (a.put o.dst (.agg (pgC (filled 0 0)))) w) : wpList Try.prog ops Q (o :: rest) a w := by
  have e : Try.prog.built 58 ((#[] : Array (Nat × Operand)).map fun (i, x) => (i, a.eval x)).toList = some (pgC (filled 0 0)) := by rw [Array.map_empty]; exact built57
  exact wpList_build hgd 58 #[] ho (by rw [e]; rfl) (by rw [e]; exact h)

theorem Arr.loadVar {w : World} {b : Nat} {zs : List Int} (h : Arr w b zs) : (loadVar 58 ⟨b, 0, none⟩).run Try.prog w = .ok (.agg (pgC zs)) w :=
  run_loadVar_row w b 58 58 (pgC zs) (0, 0) _ h.row Try.underlying58 rfl (by rw [pgC_size, h.len]; exact info57)

/-- What loadPage knows while it asks for the fault. -/
def LdS (w : World) (zs : List Int) (x y : Nat) (V : World) : Prop := (∃ ys, Arr V x ys) ∧ Arr V y zs ∧ Below w.heap.size w V
theorem ldKeep {w : World} {zs : List Int} {x y : Nat} {W V : World} (h : LdS w zs x y W) (hb : Below W.heap.size W V) : LdS w zs x y V := ⟨⟨_, h.1.choose_spec.grown hb⟩, h.2.1.grown hb, h.2.2.trans (hb.mono h.2.2.size)⟩

theorem Reads.range {w : World} {b off : Nat} {zs : List Int} (hr : Reads w (some ⟨b, off, none⟩) zs) : w.rangeAt b off (zs.map (Value.int .u8)) := by
  intro j v hv
  rw [List.getElem?_map] at hv
  cases hz : zs[j]? with
  | none => rw [hz] at hv; cases hv
  | some z =>
    rw [hz] at hv
    simp only [Option.map_some, Option.some.injEq] at hv
    subst hv
    rcases hr with hr | ⟨b', off', ha, hc⟩
    · rw [hr] at hz; simp at hz
    · simp only [Option.some.injEq, Addr.mk.injEq, and_true] at ha
      obtain ⟨rfl, rfl⟩ := ha
      rw [hc j (List.getElem?_eq_some_iff.1 hz).1, List.getD, hz]
      rfl

/-- A slice of 64 bytes as a pointer to a page. -/
theorem wpList_arrayAt {ops : Array Oper} {rest : List Oper} {o : Oper} {a : Act} {w : World} {Q : Exit → Act → World → Prop} (hgd : o.guard = none) (x : Operand) (ho : o.op = .sliceToArrayPointer 58 x)
    (ad : Option Addr) (c : Nat) (hx : a.eval x = .slice ad 64 c) (h : wpList Try.prog ops Q rest (a.put o.dst (.pointer ad)) w) : wpList Try.prog ops Q (o :: rest) a w :=
  wpList_plain hgd fun _ hK => by
    unfold Oper.wp execOp
    simp only [ho, hx, Instr.arrayAt, Sem.run_bind, run_underlying Try.underlying58, Result.andThen_ok, Nat.lt_irrefl, if_false, Sem.run_pure]
    exact hK _ _ h
theorem wp_storePg {o : Oper} {a : Act} {w : World} {K : Act → World → Prop} {Q : Exit → Act → World → Prop} (x y : Operand) (ho : o.op = .store 58 x y)
    (g : Nat) (ys : List Int) (hx : a.eval x = .pointer (some ⟨g, 0, none⟩)) (hy : a.eval y = .agg (pgC ys)) (hl : ys.length = 64) (zs : List Int) (hA : Arr w g zs)
    (h : K (a.put o.dst undef) (w.setRow g (pgC ys))) : o.wp Try.prog a w K Q :=
  wp_store_row 58 x y ho g (pgC ys) hx hy 58 (pgC zs) hA.row (by rw [pgC_size, hl]; exact info57) (by rw [pgC_size, pgC_size, hA.len, hl]) (pgC_one ys) h
theorem Arr.row_other {w : World} {b g : Nat} {zs : List Int} (h : Arr w b zs) (hn : b ≠ g) (cs : Array Value) : Arr (w.setRow g cs) b zs := ⟨h.len, (setRow_other w g b cs hn).trans h.row⟩

end Go.Proofs.Ytpoccjlngbdjlaa.Dr

/-
  The law FnExactPageFault answers true at all bytes.
-/
namespace Go.Proofs.Ytpoccjlngbdjlaa.Dr
open Go.RowKit
set_option linter.unusedVariables false

/-- The fault of bytes, and the page that the program goes on with. -/
def fltOf (zs : List Int) : Int := if zs.length = 64 then faultP zs else 1
def pg (zs : List Int) : List Int := if zs.length = 64 then zs else filled 0 0
theorem pg_len (zs : List Int) : (pg zs).length = 64 := by
  unfold pg
  split
  · assumption
  · rfl

/-- What the walk is told of a slice of integers that came in: it is nil; or it leads to a row of cap cells, the numbers zs, each fitting its kind. -/
def IsRow (k : IntKind) (w : World) (a : Option Addr) (len cap : Nat) (zs : List Int) : Prop :=
  (a = none ∧ len = 0 ∧ cap = 0 ∧ zs = []) ∨
  ∃ x, a = some x ∧ len ≤ cap ∧ cap ≤ maxLen ∧ zs.length = cap ∧ (∀ i, i < zs.length → w.cell? (x.add i) = some (.int k (zs.getD i 0))) ∧ ∀ n ∈ zs, (Lit.int k n).wf = true

theorem isRow_reads {w : World} {a : Option Addr} {len cap : Nat} {zs : List Int} (h : IsRow .u8 w a len cap zs) : (zs.take len).length = len ∧ len ≤ cap ∧ Reads w a (zs.take len) ∧ ∀ z ∈ zs.take len, 0 ≤ z ∧ z ≤ 255 := by
  rcases h with ⟨rfl, rfl, rfl, rfl⟩ | ⟨x, rfl, hl, hm, hz, hc, hw⟩
  · exact ⟨rfl, Nat.le_refl _, .inl rfl, fun z hz => by simp at hz⟩
  · refine ⟨by simp; omega, hl, ?_, fun z hzz => ?_⟩
    · by_cases h0 : len = 0
      · exact .inl (by simp [h0])
      · obtain ⟨b, off, spot⟩ := x
        have hc0 := hc 0 (by omega)
        have hspot : spot = none := by simpa [Addr.add] using World.cell?_spot hc0
        subst hspot
        refine .inr ⟨b, off, rfl, fun i hi => ?_⟩
        have hil : i < len := by simp at hi; omega
        have e := hc i (by omega)
        have ea : (⟨b, off, none⟩ : Addr).add i = ⟨b, off + i, none⟩ := by unfold Addr.add; split <;> simp_all
        rw [ea] at e
        rw [e]
        simp [List.getD, hil]
    · have := hw z (List.mem_of_mem_take hzz)
      exact bounds_u8 this

end Go.Proofs.Ytpoccjlngbdjlaa.Dr

/-
  Plain facts: in a page without a fault the cells and the directory together are not longer than the page.
-/
namespace Go.Proofs.Ytpoccjlngbdjlaa.Dr
open Go.RowKit
set_option linter.unusedVariables false

/-- How many of the first m places are so? -/
def cN (f : Nat → Bool) : Nat → Nat
  | 0 => 0
  | m + 1 => cN f m + if f m = true then 1 else 0

theorem cN_or (f g : Nat → Bool) : ∀ m, (∀ i, i < m → ¬ (f i = true ∧ g i = true)) → cN (fun i => f i || g i) m = cN f m + cN g m
  | 0, _ => rfl
  | m + 1, h => by
    rw [cN, cN, cN, cN_or f g m (fun i hi => h i (by omega))]
    have := h m (by omega)
    cases hf : f m <;> cases hg : g m <;> simp_all <;> omega
theorem cN_mono (f g : Nat → Bool) : ∀ m, (∀ i, i < m → f i = true → g i = true) → cN f m ≤ cN g m
  | 0, _ => Nat.le_refl _
  | m + 1, h => by
    rw [cN, cN]
    have h1 := cN_mono f g m (fun i hi => h i (by omega))
    have h2 := h m (by omega)
    cases hf : f m
    · simp; omega
    · simp [h2 hf]; omega
theorem cN_in (p l : Nat) : ∀ m, cN (fun i => decide (p ≤ i) && decide (i < p + l)) m = min m (p + l) - min m p
  | 0 => by simp [cN]
  | m + 1 => by
    rw [cN, cN_in p l m]
    by_cases h : p ≤ m ∧ m < p + l
    · rw [if_pos (by simp [h])]; omega
    · rw [if_neg (by simpa using h)]; omega
theorem cN_ge (p : Nat) : ∀ m, cN (fun i => decide (p ≤ i)) m = m - p
  | 0 => by simp [cN]
  | m + 1 => by
    rw [cN, cN_ge p m]
    by_cases h : p ≤ m
    · rw [if_pos (by simpa using h)]; omega
    · rw [if_neg (by simpa using h)]; omega

/-- What a page without a fault is. -/
structure Fine (zs : List Int) : Prop where
  pg : IsPg zs
  few : nb zs 0 ≤ 16
  dir : 2 + 2 * nb zs 0 ≤ nb zs 1
  low : nb zs 1 ≤ 64
  ok : ∀ s, s < nb zs 0 → wrgS zs s = false
  com : comB zs (nb zs 0) = false
  ends : endB zs = false

theorem fine_of {zs : List Int} (hz : ∀ z ∈ zs, 0 ≤ z ∧ z ≤ 255) (h : fltOf zs = 0) : Fine zs := by
  unfold fltOf at h
  split at h
  · rename_i hl
    unfold faultP at h
    split at h
    · cases h
    · rename_i h1
      split at h
      · cases h
      · rename_i h2
        split at h
        · cases h
        · rename_i h3
          simp only [headB, Bool.or_eq_true, decide_eq_true_eq, not_or, Nat.not_lt] at h1
          simp only [Bool.or_eq_true, not_or, Bool.not_eq_true] at h3
          exact ⟨⟨hl, hz⟩, h1.1.1, h1.1.2, h1.2, wrgN_at zs _ (by simpa using h2), h3.1, h3.2⟩
  · cases h

theorem Fine.place {zs : List Int} (h : Fine zs) (s : Nat) (hs : s < nb zs 0) : (nb zs (2 + 2 * s) = 0 ∧ nb zs (3 + 2 * s) = 0) ∨ (nb zs (2 + 2 * s) ≠ 0 ∧ nb zs (3 + 2 * s) ≠ 0 ∧ nb zs 1 ≤ nb zs (2 + 2 * s) ∧ nb zs (2 + 2 * s) + nb zs (3 + 2 * s) ≤ 64) := by
  have h1 := h.ok s hs
  unfold wrgS wrongB at h1
  by_cases e : nb zs (2 + 2 * s) = 0 ∧ nb zs (3 + 2 * s) = 0
  · exact .inl e
  · have : (nb zs (2 + 2 * s) == 0 && nb zs (3 + 2 * s) == 0) = false := by simp; omega
    rw [this] at h1
    simp at h1
    exact .inr (by omega)
theorem Fine.end64 {zs : List Int} (h : Fine zs) (s : Nat) (hs : s < nb zs 0) : nb zs (2 + 2 * s) + nb zs (3 + 2 * s) ≤ 64 := by rcases h.place s hs with h1 | h1 <;> omega

theorem comB_at (zs : List Int) : ∀ k, comB zs k = false → ∀ s, s < k → hitB zs s = false
  | 0, _, s, hs => by omega
  | k + 1, h, s, hs => by
    rw [comB, Bool.or_eq_false_iff] at h
    by_cases e : s = k
    · rw [e]; exact h.2
    · exact comB_at zs k h.1 s (by omega)

theorem Fine.count {zs : List Int} (h : Fine zs) : ∀ k, k ≤ nb zs 0 → cN (usedB zs k) 64 = lens zs k
  | 0, _ => by
    have : ∀ m, cN (usedB zs 0) m = 0 := fun m => by
      induction m with
      | zero => rfl
      | succ m ih => rw [cN, ih]; rfl
    exact this 64
  | k + 1, hk => by
    have e : usedB zs (k + 1) = fun i => usedB zs k i || inB zs k i := by funext i; rfl
    have hh := comB_at zs _ h.com k (by omega)
    have he := h.end64 k (by omega)
    rw [e, cN_or, h.count k (by omega), lens]
    · congr 1
      have := cN_in (nb zs (2 + 2 * k)) (nb zs (3 + 2 * k)) 64
      show cN (fun i => decide (nb zs (2 + 2 * k) ≤ i) && decide (i < nb zs (2 + 2 * k) + nb zs (3 + 2 * k))) 64 = _
      rw [this]
      omega
    · intro i hi hc
      unfold hitB at hh
      rw [List.any_eq_false] at hh
      have := hh i (by simpa using hi)
      rw [hc.1, hc.2] at this
      simp at this

theorem Fine.sum {zs : List Int} (h : Fine zs) : 2 + 2 * nb zs 0 + lens zs (nb zs 0) ≤ 64 := by
  have h1 := cN_mono (usedB zs (nb zs 0)) (fun i => decide (nb zs 1 ≤ i)) 64 (fun i hi hu => by
    obtain ⟨s, hs, hin⟩ := (used_iff zs i _).1 hu
    have h2 := (in_iff zs s i).1 hin
    rcases h.place s hs with h3 | h3
    · omega
    · simp; omega)
  rw [cN_ge, h.count _ (Nat.le_refl _)] at h1
  have h2 := h.dir
  have h3 := h.low
  omega

end Go.Proofs.Ytpoccjlngbdjlaa.Dr
