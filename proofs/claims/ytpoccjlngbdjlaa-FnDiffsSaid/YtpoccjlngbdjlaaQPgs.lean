/-
  A page as an array and as a slice, in memory: what the contracts over pages want.
-/
import Derived.Test.YtpoccjlngbdjlaaQRunC

namespace Go.Proofs.Ytpoccjlngbdjlaa
open Go.RowKit
set_option linter.unusedVariables false

/-- The cells of a page. -/
def pgC (zs : List Int) : Array Value := (zs.map (Value.int .u8)).toArray

/-- Block b is an array of 64 bytes that holds zs. -/
structure Arr (w : World) (b : Nat) (zs : List Int) : Prop where
  len : zs.length = 64
  row : w.heap[b]? = some (.cells (pgC zs) 58)

theorem pgC_size (zs : List Int) : (pgC zs).size = zs.length := by simp [pgC]

theorem pgC_at (zs : List Int) (i : Nat) (h : i < zs.length) : (pgC zs)[i]? = some (.int .u8 (zs.getD i 0)) := by
  simp [pgC, List.getD, List.getElem?_eq_getElem h]

theorem info58 : (Try.prog.info? 58).map (·.size) = some 64 := by kernel_rfl

section
variable {w w' : World} {b : Nat} {zs : List Int}

theorem Arr.lt (h : Arr w b zs) : b < w.heap.size := (Array.getElem?_eq_some_iff.1 h.row).1

theorem Arr.cell (h : Arr w b zs) (i : Nat) (hi : i < 64) : w.cell? ⟨b, i, none⟩ = some (.int .u8 (zs.getD i 0)) := by
  rw [cell_of_row w b i _ _ _ h.row, pgC_at zs i (by rw [h.len]; exact hi)]

theorem Arr.frozen (h : Arr w b zs) (i : Nat) : w.frozen? ⟨b, i, none⟩ = false := by simp [World.frozen?, h.row]

theorem Arr.below {B : Nat} (h : Arr w b zs) (hb : Below B w w') (hlt : b < B) : Arr w' b zs := ⟨h.len, (hb.block b hlt).trans h.row⟩

theorem Arr.grown (h : Arr w b zs) (hb : Below w.heap.size w w') : Arr w' b zs := h.below hb h.lt

theorem Arr.turned {lo hi : Nat} (h : Arr w b zs) (ht : Turned lo hi w w') (hn : b < lo ∨ hi ≤ b) : Arr w' b zs := ⟨h.len, (ht.block b h.lt (by omega)).trans h.row⟩

theorem Arr.other (h : Arr w b zs) (p : Addr) (v : Value) (hn : p.block ≠ b) : Arr (w.setCell p v) b zs := ⟨h.len, by rw [Below.heap_setCell _ _ _ _ (fun e => hn e.symm)]; exact h.row⟩

theorem Arr.set (h : Arr w b zs) (i : Nat) (v : Int) : Arr (w.setCell ⟨b, i, none⟩ (.int .u8 v)) b (zs.set i v) := by
  refine ⟨by rw [List.length_set]; exact h.len, ?_⟩
  have hv : w.heap[b]'h.lt = .cells (pgC zs) 58 := (Array.getElem?_eq_some_iff.1 h.row).2
  unfold World.setCell
  rw [Array.getElem?_eq_getElem (by simpa using h.lt), Array.getElem_modify]
  simp [hv, pgC]

theorem Arr.bytes (h : Arr w b zs) {lo hi : Nat} (h1 : lo ≤ b) (h2 : b < hi) : BytesIn lo hi w (some ⟨b, 0, none⟩) zs :=
  .inr ⟨b, 0, rfl, h1, h2, fun i hi => by rw [Nat.zero_add]; exact h.cell i (by rw [← h.len]; exact hi), fun i _ => by rw [Nat.zero_add]; exact h.frozen i⟩

theorem Arr.alloc (h : Arr w b zs) (o : Obj) : Arr (w.alloc o) b zs := ⟨h.len, (heap_alloc_old w o h.lt).trans h.row⟩

theorem arr_new (w : World) (zs : List Int) (h : zs.length = 64) : Arr (w.alloc (.cells (pgC zs) 58)) w.heap.size zs := ⟨h, heap_alloc_new w _⟩

end

/-- The first k bytes are f, the others 0. -/
def filled (f : Int) (k : Nat) : List Int := List.replicate k f ++ List.replicate (64 - k) 0

theorem filled_zero (f : Int) (i : Nat) : (filled f 0).getD i 0 = 0 := by
  show (List.replicate 64 (0 : Int)).getD i 0 = 0
  rw [List.getD_eq_getElem?_getD, List.getElem?_replicate]
  split <;> rfl

theorem filled_length (f : Int) (k : Nat) (h : k ≤ 64) : (filled f k).length = 64 := by simp [filled]; omega

theorem pgC_one (ys : List Int) : (pgC ys).all (·.oneCell') = true := by
  unfold pgC
  exact all_oneCell_toArray (fun v hv => by
    rw [List.mem_map] at hv
    obtain ⟨z, _, rfl⟩ := hv
    rfl)

/-- A whole page is written. -/
theorem wpList_storePg {ops : Array Oper} {rest : List Oper} {o : Oper} {a : Act} {w : World} {Q : Exit → Act → World → Prop} (hgd : o.guard = none) (x y : Operand) (ho : o.op = .store 58 x y)
    (g : Nat) (ys : List Int) (hx : a.eval x = .pointer (some ⟨g, 0, none⟩)) (hy : a.eval y = .agg (pgC ys)) (hl : ys.length = 64) (zs : List Int) (hA : Arr w g zs)
    (h : wpList Try.prog ops Q rest (a.put o.dst undef) (w.setRow g (pgC ys))) : wpList Try.prog ops Q (o :: rest) a w :=
  wpList_store_row hgd 58 x y ho g (pgC ys) hx hy 58 (pgC zs) hA.row (by rw [pgC_size, hl]; exact info58) (by rw [pgC_size, pgC_size, hA.len, hl]) (pgC_one ys) h

theorem Arr.put {w : World} {g : Nat} {zs ys : List Int} (h : Arr w g zs) (hl : ys.length = 64) : Arr (w.setRow g (pgC ys)) g ys := ⟨hl, setRow_heap w g _ _ _ _ h.row⟩

theorem setRow_other (w : World) (g k : Nat) (cs : Array Value) (h : k ≠ g) : (w.setRow g cs).heap[k]? = w.heap[k]? := by
  unfold World.setRow
  simp only
  rw [Array.getElem?_modify, if_neg (fun e => h e.symm)]

theorem setRow_size (w : World) (g : Nat) (cs : Array Value) : (w.setRow g cs).heap.size = w.heap.size := by unfold World.setRow; simp

theorem setRow_below {B : Nat} {w w' : World} (h : Below B w w') {g : Nat} (hg : B ≤ g) (cs : Array Value) : Below B w (w'.setRow g cs) :=
  ⟨h.os, h.tape, h.output, by rw [setRow_size]; exact h.size, fun k hk => (setRow_other w' g k cs (by omega)).trans (h.block k hk)⟩

theorem built58 : Try.prog.built 58 [] = some (pgC (filled 0 0)) := by kernel_rfl

/-- A page of zeros is made. -/
theorem wpList_buildPg {ops : Array Oper} {rest : List Oper} {o : Oper} {a : Act} {w : World} {Q : Exit → Act → World → Prop} (hgd : o.guard = none) (ho : o.op = .build 58 #[])
    (h : wpList Try.prog ops Q rest (a.put o.dst (.agg (pgC (filled 0 0)))) w) : wpList Try.prog ops Q (o :: rest) a w := by
  have e : Try.prog.built 58 ((#[] : Array (Nat × Operand)).map fun (i, x) => (i, a.eval x)).toList = some (pgC (filled 0 0)) := by rw [Array.map_empty]; exact built58
  exact wpList_build hgd 58 #[] ho (by rw [e]; rfl) (by rw [e]; exact h)

theorem Arr.loadVar {w : World} {b : Nat} {zs : List Int} (h : Arr w b zs) : (loadVar 58 ⟨b, 0, none⟩).run Try.prog w = .ok (.agg (pgC zs)) w :=
  run_loadVar_row w b 58 58 (pgC zs) (0, 0) _ h.row Try.underlying58 rfl (by rw [pgC_size, h.len]; exact info58)

theorem Reads.range {w : World} {b off : Nat} {zs : List Int} (hr : Reads w (some ⟨b, off, none⟩) zs) : w.rangeAt b off (zs.map (Value.int .u8)) := by
  intro j v hv
  rw [List.getElem?_map] at hv
  cases hz : zs[j]? with
  | none => rw [hz] at hv; cases hv
  | some z =>
    rw [hz] at hv
    simp only [Option.map_some, Option.some.injEq] at hv
    subst hv
    rcases hr with hr | ⟨b', off', ha, hc⟩
    · rw [hr] at hz; simp at hz
    · simp only [Option.some.injEq, Addr.mk.injEq, and_true] at ha
      obtain ⟨rfl, rfl⟩ := ha
      rw [hc j (List.getElem?_eq_some_iff.1 hz).1, List.getD, hz]
      rfl

/-- A slice of 64 bytes as a pointer to a page. -/
theorem wpList_arrayAt {ops : Array Oper} {rest : List Oper} {o : Oper} {a : Act} {w : World} {Q : Exit → Act → World → Prop} (hgd : o.guard = none) (x : Operand) (ho : o.op = .sliceToArrayPointer 58 x)
    (ad : Option Addr) (c : Nat) (hx : a.eval x = .slice ad 64 c) (h : wpList Try.prog ops Q rest (a.put o.dst (.pointer ad)) w) : wpList Try.prog ops Q (o :: rest) a w :=
  wpList_plain hgd fun _ hK => by
    unfold Oper.wp execOp
    simp only [ho, hx, Instr.arrayAt, Sem.run_bind, run_underlying Try.underlying58, Result.andThen_ok, Nat.lt_irrefl, if_false, Sem.run_pure]
    exact hK _ _ h

theorem wp_storePg {o : Oper} {a : Act} {w : World} {K : Act → World → Prop} {Q : Exit → Act → World → Prop} (x y : Operand) (ho : o.op = .store 58 x y)
    (g : Nat) (ys : List Int) (hx : a.eval x = .pointer (some ⟨g, 0, none⟩)) (hy : a.eval y = .agg (pgC ys)) (hl : ys.length = 64) (zs : List Int) (hA : Arr w g zs)
    (h : K (a.put o.dst undef) (w.setRow g (pgC ys))) : o.wp Try.prog a w K Q :=
  wp_store_row 58 x y ho g (pgC ys) hx hy 58 (pgC zs) hA.row (by rw [pgC_size, hl]; exact info58) (by rw [pgC_size, pgC_size, hA.len, hl]) (pgC_one ys) h

theorem Arr.row_other {w : World} {b g : Nat} {zs : List Int} (h : Arr w b zs) (hn : b ≠ g) (cs : Array Value) : Arr (w.setRow g cs) b zs := ⟨h.len, (setRow_other w g b cs hn).trans h.row⟩

/-- A whole page is read. -/
theorem wpList_loadPg {ops : Array Oper} {rest : List Oper} {o : Oper} {a : Act} {w : World} {Q : Exit → Act → World → Prop} (hgd : o.guard = none) (x : Operand) (ho : o.op = .load 58 x)
    (g : Nat) (hx : a.eval x = .pointer (some ⟨g, 0, none⟩)) (zs : List Int) (hA : Arr w g zs)
    (h : wpList Try.prog ops Q rest (a.put o.dst (.agg (pgC zs))) w) : wpList Try.prog ops Q (o :: rest) a w :=
  wpList_load_row hgd 58 x ho g hx 58 (pgC zs) (0, 0) _ hA.row Try.underlying58 rfl (by rw [pgC_size, hA.len]; exact info58) h

theorem reads_at {w : World} {b off : Nat} {zs : List Int} (h : Reads w (some ⟨b, off, none⟩) zs) (i : Nat) (hi : i < zs.length) : w.cell? ⟨b, off + i, none⟩ = some (.int .u8 (zs.getD i 0)) := by
  rcases h with h | ⟨b', off', ha, hc⟩
  · rw [h] at hi; simp at hi
  · simp only [Option.some.injEq, Addr.mk.injEq, and_true] at ha
    obtain ⟨rfl, rfl⟩ := ha
    exact hc i hi


/-- What wpList_append_own asks of the bytes that are appended. -/
theorem reads_src {w : World} {b off : Nat} {zs : List Int} (h : Reads w (some ⟨b, off, none⟩) zs) : ∀ j u, (zs.map (Value.int .u8))[j]? = some u → w.cell? ((⟨b, off, none⟩ : Addr).add j) = some u := by
  intro j u hu
  rw [List.getElem?_map] at hu
  cases hz : zs[j]? with
  | none => rw [hz] at hu; cases hu
  | some z =>
    rw [hz] at hu
    simp only [Option.map_some, Option.some.injEq] at hu
    subst hu
    rw [Addr.add_mid, reads_at h j (List.getElem?_eq_some_iff.1 hz).1, List.getD, hz]
    rfl

theorem Reads.cell {w : World} {b off : Nat} {zs : List Int} (hr : Reads w (some ⟨b, off, none⟩) zs) (p l : Nat) (hl : p + l ≤ zs.length) : Reads w (some ⟨b, off + p, none⟩) ((zs.drop p).take l) := by
  by_cases h0 : l = 0
  · exact .inl (by simp [h0])
  · refine .inr ⟨b, off + p, rfl, fun i hi => ?_⟩
    have hil : i < l := by simp at hi; omega
    rw [Nat.add_assoc, reads_at hr (p + i) (by omega)]
    simp [List.getD, hil]

theorem Arr.cellReads {V : World} {b : Nat} {ys : List Int} (h : Arr V b ys) (p l : Nat) (hl : p + l ≤ 64) : Reads V (some ⟨b, p, none⟩) ((ys.drop p).take l) := by
  have := (h.bytes (Nat.zero_le _) h.lt).reads.cell p l (by rw [h.len]; exact hl)
  rw [Nat.zero_add] at this
  exact this

/-- Block g holds the 64 bytes zs first of all, and may be written. -/
structure Sl64 (w : World) (g : Nat) (zs : List Int) : Prop where
  len : zs.length = 64
  row : ∃ tl : List Value, w.heap[g]? = some (.cells (zs.map (Value.int .u8) ++ tl).toArray 5)

section
variable {w w' : World} {g : Nat} {zs : List Int}

theorem Sl64.lt (h : Sl64 w g zs) : g < w.heap.size := by obtain ⟨_, ht⟩ := h.row; exact (Array.getElem?_eq_some_iff.1 ht).1

theorem Sl64.below {B : Nat} (h : Sl64 w g zs) (hb : Below B w w') (hlt : g < B) : Sl64 w' g zs := ⟨h.len, by obtain ⟨tl, ht⟩ := h.row; exact ⟨tl, (hb.block g hlt).trans ht⟩⟩

theorem Sl64.grown (h : Sl64 w g zs) (hb : Below w.heap.size w w') : Sl64 w' g zs := h.below hb h.lt

theorem Sl64.cell (h : Sl64 w g zs) (i : Nat) (hi : i < 64) : w.cell? ⟨g, i, none⟩ = some (.int .u8 (zs.getD i 0)) := by
  obtain ⟨tl, ht⟩ := h.row
  have hl := h.len
  rw [cell_of_row w g i _ _ _ ht]
  simp [List.getElem?_append, hl, hi, List.getD]

theorem Sl64.frozen (h : Sl64 w g zs) (i : Nat) : w.frozen? ⟨g, i, none⟩ = false := by obtain ⟨tl, ht⟩ := h.row; simp [World.frozen?, ht]

theorem Sl64.bytes (h : Sl64 w g zs) {lo hi : Nat} (h1 : lo ≤ g) (h2 : g < hi) : BytesIn lo hi w (some ⟨g, 0, none⟩) zs :=
  .inr ⟨g, 0, rfl, h1, h2, fun i hi => by rw [Nat.zero_add]; exact h.cell i (by rw [← h.len]; exact hi), fun i _ => by rw [Nat.zero_add]; exact h.frozen i⟩

theorem Sl64.set (h : Sl64 w g zs) (i : Nat) (hi : i < 64) (v : Int) : Sl64 (w.setCell ⟨g, i, none⟩ (.int .u8 v)) g (zs.set i v) := by
  obtain ⟨tl, ht⟩ := h.row
  refine ⟨by rw [List.length_set]; exact h.len, tl, ?_⟩
  have hv : w.heap[g]'h.lt = .cells (zs.map (Value.int .u8) ++ tl).toArray 5 := (Array.getElem?_eq_some_iff.1 ht).2
  unfold World.setCell
  rw [Array.getElem?_eq_getElem (by simpa using h.lt), Array.getElem_modify]
  have hl := h.len
  simp [hv, List.set_append_left, hl, hi]

theorem Sl64.put (h : Sl64 w g zs) (off : Nat) (cs : List Int) (hfit : off + cs.length ≤ 64) (tl : List Value) (ht : w.heap[g]? = some (.cells (zs.map (Value.int .u8) ++ tl).toArray 5)) :
    Sl64 (w.setRow g ((zs.map (Value.int .u8) ++ tl).toArray.toList.take off ++ cs.map (Value.int .u8) ++ (zs.map (Value.int .u8) ++ tl).toArray.toList.drop (off + (cs.map (Value.int .u8)).length)).toArray) g (splice zs off cs) := by
  refine ⟨by rw [length_splice _ _ _ (by rw [h.len]; exact hfit)]; exact h.len, tl, ?_⟩
  rw [setRow_heap w g _ _ _ _ ht]
  have hl := h.len
  congr 2
  rw [List.length_map]
  simp only []
  rw [List.take_append_of_le_length (by simp; omega), List.drop_append_of_le_length (by simp; omega)]
  simp [splice]

end

set_option maxHeartbeats 1000000 in
theorem l2Copy_any (a : Option Addr) (zs : List Int) (c : Nat) (w : World) (hr : Reads w a zs) (h : zs.length = 64) :
    Calls Try.prog 52 #[.slice a 64 c] w fun e w' => ∃ g d, e = .returned (.slice (some ⟨g, 0, none⟩) 64 d) ∧ 64 ≤ d ∧ Below w.heap.size w w' ∧ w.heap.size ≤ g ∧ Sl64 w' g zs := by
  obtain ⟨i0, hi, hz0, hz1, hz2⟩ := info5
  obtain ⟨b, off, rfl⟩ : ∃ b off, a = some ⟨b, off, none⟩ := by
    rcases hr with hr | ⟨b, off, ha, _⟩
    · rw [hr] at h; simp at h
    · exact ⟨b, off, ha⟩
  have hO : (w.alloc (.cells #[] 5)).ownsRow w.heap.size 5 1 (.slice (some ⟨w.heap.size, 0, none⟩) 0 0) 0 [] := by simpa using World.ownsRow_lit (base := w.heap.size) (e := 5) (size := 1) w #[] 0 (Nat.le_refl _) (by unfold maxLen; omega) rfl
  have hl : (zs.map (Value.int .u8)).length = 64 * 1 := by simpa using h
  go_enter Try.func52, Try.ntmps52
  go_wp2_with (at_builtin; go_must (refine wpList_append_own _ rfl _ _ 22 rfl w.heap.size 5 i0 (.int .u8 0) 1 1 Try.underlying22 hi hz0 hz1 hz2 rfl (by decide) _ _ _ rfl hO ⟨b, off, none⟩ 64 c (zs.map (Value.int .u8)) rfl hl ?c1 ?c2 ?c3 ?c4 ?c5 ?_))
  case c1 =>
    intro j u hu
    exact reads_src (hr.below (B := w.heap.size) (by go_grown) (Nat.le_refl _)) j u hu
  case c2 =>
    intro u hu
    rw [List.mem_map] at hu
    obtain ⟨z, _, rfl⟩ := hu
    rfl
  case c3 => unfold maxLen; omega
  case c4 => omega
  case c5 => simp
  intro v' w1 hown' hgrow _
  have hB' : Below w.heap.size w w1 := Below.grown ((Below.refl _ _).alloc (Nat.le_refl _) _) hgrow (by simp) (fun j hj => by simp [Value.ownBlock] at hj; omega)
  clear hgrow
  go_wp2_with fail
  go_ret
  have hown : w1.ownsRow w.heap.size 5 1 v' 64 (zs.map (Value.int .u8)) := by simpa using hown'
  rcases hown.2 with ⟨_, h0⟩ | ⟨g, cap, cur, hv, hg0, hg, hcap, _, _, htk⟩
  · cases h0
  · refine ⟨g, cap, by rw [← hv]; rfl, by omega, hB', hg0, h, (cur.toList.drop (64 * 1)), ?_⟩
    rw [hg, ← htk, List.take_append_drop]

end Go.Proofs.Ytpoccjlngbdjlaa
