/-
  Runs of one's own memory: toRunS, eqRunS.
-/
import Derived.Test.YteebbaleejbodaaAREdr
import Derived.Deep.Cut
import Derived.Deep.MidRow
import Derived.Laws.CopyOwn
import Derived.Test.YteebbaleejbodaaARRdw
import Derived.Test.YteebbaleejbodaaARLawA
import Derived.Test.YteebbaleejbodaaARModF
import Derived.Test.YteebbaleejbodaaARVci

namespace Go.Proofs.Yteebbaleejbodaa
open Go.RowKit
set_option linter.unusedVariables false

section
variable {lo hi b n : Nat} {w w' : World} {P : Nat → Int} {A : Nat → Option Addr} {C : Nat → Nat} {Z : Nat → List Int} {F : Nat → Nat}

end

set_option maxHeartbeats 400000 in
theorem toRun_any (p : Int) (a : Option Addr) (zs : List Int) (n c : Nat) (w : World) (hn : zs.length = n) (hm : n ≤ 1048576) (hr : Reads w a zs) :
    Calls Try.prog 128 #[.agg #[.int .i64 p, .slice a n c]] w fun e w' => e = .returned (.agg #[.int .i64 p, .slice (some ⟨w.heap.size + 3, 0, none⟩) n n]) ∧ Below w.heap.size w w' ∧ w.heap.size + 3 ≤ w'.heap.size ∧ BytesIn (w.heap.size + 3) (w.heap.size + 4) w' (some ⟨w.heap.size + 3, 0, none⟩) zs := by
  go_enter Try.func128, Try.ntmps128
  go_upto_region 3 with (fail)
  generalize hY : World.alloc _ _ = Y
  have g : Below w.heap.size w Y := by rw [← hY]; go_grown
  have hs : Y.heap.size = w.heap.size + 3 := by rw [← hY]; simp
  have x0 : Y.cell? ⟨w.heap.size, 0, none⟩ = some (.int .i64 p) := by rw [← hY]; simp [go_sem]
  have x1 : Y.cell? ⟨w.heap.size, 1, none⟩ = some (.slice a n c) := by rw [← hY]; simp [go_sem]
  have y0 : Y.cell? ⟨w.heap.size + 1, 0, none⟩ = some (.int .i64 0) := by rw [← hY]; simp [go_sem]
  have y1 : Y.cell? ⟨w.heap.size + 1, 1, none⟩ = some (.slice none 0 0) := by rw [← hY]; simp [go_sem]
  have z0 : Y.cell? ⟨w.heap.size + 1 + 1, 0, none⟩ = some (.int .i64 p) := by rw [← hY]; simp [go_sem]
  have z1 : Y.cell? ⟨w.heap.size + 1 + 1, 1, none⟩ = some (.slice none 0 0) := by rw [← hY]; simp [go_sem]
  have v0 : Y.frozen? ⟨w.heap.size + 1, 0, none⟩ = false := by rw [← hY]; simp [go_sem]
  have v1 : Y.frozen? ⟨w.heap.size + 1, 1, none⟩ = false := by rw [← hY]; simp [go_sem]
  have v2 : Y.frozen? ⟨w.heap.size + 1 + 1, 1, none⟩ = false := by rw [← hY]; simp [go_sem]
  clear hY
  have hr := hr.below g (Nat.le_refl _)
  go_wp2_with fail
  refine (toByteS_any a zs n c _ hn hm hr).mono ?_
  rintro e w' ⟨rfl, g', hy⟩
  rw [hs] at hy ⊢
  have hs' := g'.size
  have g2 : Below w.heap.size w w' := g.trans (g'.mono g.size)
  have y0 := (g'.cell (p := ⟨w.heap.size + 1, 0, none⟩) (by simp only; omega)).trans y0
  have y1 := (g'.cell (p := ⟨w.heap.size + 1, 1, none⟩) (by simp only; omega)).trans y1
  have z0 := (g'.cell (p := ⟨w.heap.size + 1 + 1, 0, none⟩) (by simp only; omega)).trans z0
  have z1 := (g'.cell (p := ⟨w.heap.size + 1 + 1, 1, none⟩) (by simp only; omega)).trans z1
  have v0 := (g'.frozen (p := ⟨w.heap.size + 1, 0, none⟩) (by simp only; omega)).trans v0
  have v1 := (g'.frozen (p := ⟨w.heap.size + 1, 1, none⟩) (by simp only; omega)).trans v1
  have v2 := (g'.frozen (p := ⟨w.heap.size + 1 + 1, 1, none⟩) (by simp only; omega)).trans v2
  have hl3 : w.heap.size + 3 ≤ w'.heap.size := by omega
  have hy' : BytesIn (w.heap.size + 3) (w.heap.size + 4) w' (some ⟨w.heap.size + 3, 0, none⟩) zs := by
    rcases hy with hy | ⟨b', o', hb', _, _, hc, hf⟩
    · exact .inl hy
    · simp only [Option.some.injEq, Addr.mk.injEq, and_true] at hb'
      obtain ⟨rfl, rfl⟩ := hb'
      exact .inr ⟨_, _, rfl, Nat.le_refl _, by omega, hc, hf⟩
  clear g g' hs hs' x0 x1 hy hr
  go_wp2_with fail
  refine bodyPost_ret (v := .agg #[.int .i64 p, .slice (some ⟨w.heap.size + 3, 0, none⟩) n n]) (by simp [results, Try.results128, go_sem, *]) rfl ?_
  refine ⟨rfl, by go_grown, by simp; omega, ?_⟩
  exact ((hy'.setCell (by simp) _).setCell (by simp) _).setCell (by simp) _

theorem infoRn' : (Try.prog.info? 177).map (fun i => (i.zero, i.size, i.bytes)) = some (some (.agg #[.int .i64 0, .slice none 0 0]), 2, 32) := by kernel_rfl
theorem infoRn : ∃ i, Try.prog.info? 177 = some i ∧ i.zero = some (.agg #[.int .i64 0, .slice none 0 0]) ∧ i.size = 2 ∧ i.bytes = 32 := by
  have h := infoRn'
  cases hi : Try.prog.info? 177 with
  | none => rw [hi] at h; simp at h
  | some i => rw [hi] at h; simp at h; exact ⟨i, rfl, h.1, h.2.1, h.2.2⟩

theorem eqKeepR {w W V : World} {S : World → Prop} (h : ∀ V, Below w.heap.size w V → S V) (h1 : Below w.heap.size w W) (hb : Below W.heap.size W V) : Below w.heap.size w V ∧ S V :=
  ⟨h1.trans (hb.mono h1.size), h V (h1.trans (hb.mono h1.size))⟩

theorem eqKeepRRD {w V : World} {S : World → Prop} (h : ∀ V, Below w.heap.size w V → S V) (hb : Below w.drew.heap.size w.drew V) : Below w.heap.size w V ∧ S V :=
  eqKeepR h (Below.refl _ _).drew hb

set_option maxHeartbeats 1000000 in
theorem toRunS_any (a : Option Addr) (n c : Nat) (P : Nat → Int) (A : Nat → Option Addr) (C : Nat → Nat) (Z : Nat → List Int) (w : World) (hm : n + took Z n ≤ 1048576) (hr : RunsRead w a n P A C Z) :
    Calls Try.prog 80 #[.slice a n c] w fun e w' => e = .returned (.slice (some ⟨w.heap.size, 0, none⟩) n n) ∧ Below w.heap.size w w' ∧ ∃ A' F', Own w.heap.size w'.heap.size w' w.heap.size n P A' (fun i => (Z i).length) Z F' := by
  obtain ⟨i0, hi, hz0, hz1, hz2⟩ := infoRn
  have hzl : ∀ i, i < n → (Z i).length ≤ 1048576 := fun i hi => by have := took_one Z i n hi; omega
  go_enter Try.func80, Try.ntmps80
  go_wp2_with (at_make; refine wpList_make_full _ rfl _ _ 64 rfl w.heap.size 177 i0 (.agg #[.int .i64 0, .slice none 0 0]) 2 Try.underlying64 hi hz0 hz1 .i64 .i64 _ _ n rfl rfl rfl rfl ?c1 ?c2 (Nat.le_refl _) ?_)
  case c1 => rw [hz2]; omega
  case c2 => unfold maxLen; omega
  intro w1 hown hg
  have hB : Below w.heap.size w w1 := Below.grown (Below.refl _ _) hg (Nat.le_refl _) (fun k hk => by cases hk)
  have hlt1 : w.heap.size < w1.heap.size := (hown.lt w.heap.size (by simp [Value.ownBlock])).2
  have hP : Part w1 w.heap.size n 0 P Z (fun _ => none) (fun _ => 0) :=
    ⟨fun i hi => absurd hi (Nat.not_lt_zero _), fun i hi => absurd hi (Nat.not_lt_zero _), fun i _ hi => by rw [hown.cellAt (i * 2) (by omega)]; exact made_pair0 (n * 2) i (by omega), fun i _ hi => by rw [hown.cellAt (i * 2 + 1) (by omega)]; exact made_pair1 (n * 2) i (by omega),
      fun i _ => hown.frozenAt _, fun i _ => hown.frozenAt _, fun i hi => absurd hi (Nat.not_lt_zero _), fun i hi => absurd hi (Nat.not_lt_zero _), fun i j _ hi => absurd hi (Nat.not_lt_zero _)⟩
  clear hown hg hi hz0 hz1 hz2
  by_cases h0 : n = 0
  · subst h0
    go_wp2_with fail
    go_rounds 1
    go_ret
    exact ⟨rfl, hB, _, _, hP.own hlt1⟩
  have HR : Hid (RunsRead w a n P A C Z) := hr
  rcases hr with hr | ⟨b, off, rfl, hc⟩
  · exact absurd hr h0
  clear hc
  go_wp2_with fail
  go_loopw [4] (fun i wr => ∃ k : Nat, k ≤ n ∧ i = .int .i64 k ∧ Below w.heap.size w wr ∧ (∃ A' F', Part wr w.heap.size n k P Z A' F') ∧ w.heap.size < wr.heap.size) (fun i _ => n - (intOf i).toNat)
  case atStart => exact ⟨0, Nat.zero_le _, rfl, hB, ⟨_, _, hP⟩, hlt1⟩
  case round =>
    obtain ⟨k, hk, rfl, g, ⟨A', F', hP⟩, hlt⟩ := hrel
    clear hB hlt1
    by_cases hlt2 : k < n
    · obtain ⟨e0, e1, e2⟩ := (HR.out.below g (Nat.le_refl _)).at_ k hlt2
      have hkn : (k : Int) < (n : Int) := by omega
      go_wp2_with fail
      refine (toRun_any (P k) (A k) (Z k) (Z k).length (C k) _ rfl (hzl k hlt2) e2).mono ?_
      rintro e w' ⟨rfl, g', hs, hy⟩
      have hP' := hP.step hlt2 hlt g' hs hy
      have g2 : Below w.heap.size w w' := g.trans (g'.mono g.size)
      have hlt' : w.heap.size < w'.heap.size := by omega
      have r0 := (g'.cell (p := ⟨w.heap.size, k * 2, none⟩) hlt).trans (hP.r0 k (Nat.le_refl _) hlt2)
      have r1 := (g'.cell (p := ⟨w.heap.size, k * 2 + 1, none⟩) hlt).trans (hP.r1 k (Nat.le_refl _) hlt2)
      have f0 := (g'.frozen (p := ⟨w.heap.size, k * 2, none⟩) hlt).trans (hP.f0 k hlt2)
      have f1 := (g'.frozen (p := ⟨w.heap.size, k * 2 + 1, none⟩) hlt).trans (hP.f1 k hlt2)
      obtain ⟨g3, hg3⟩ : ∃ g3, g3 = wr.heap.size + 3 := ⟨_, rfl⟩
      rw [← hg3] at hP' ⊢
      clear g g' hs hy hP e0 e1 e2 hg3
      go_wp2_with fail
      go_roundw
      case rel => exact ⟨k + 1, by omega, by go_num, by go_grown, ⟨_, _, hP'⟩, by simp; omega⟩
      case measure => simp [intOf]; omega
    · have e : k = n := by omega
      subst e
      go_wp2_with fail
      go_ret
      exact ⟨rfl, g, _, _, hP.own hlt⟩

set_option maxHeartbeats 400000 in
theorem eqRunR_same (p : Int) (a b : Option Addr) (la lb ua ub : Nat) (zs : List Int) (n c d : Nat) (w : World) (hn : zs.length = n) (hm : n ≤ 140737488351232) (ha : BytesIn la ua w a zs) (hb : BytesIn lb ub w b zs) :
    Calls Try.prog 136 #[.agg #[.int .i64 p, .slice a n c], .agg #[.int .i64 p, .slice b n d]] w fun e w' => e = .returned (.bool true) ∧ Below w.heap.size w w' := by
  go_enter Try.func136, Try.ntmps136
  go_wp2_with fail
  refine (eqByteS_same a b la lb ua ub zs n c d _ hn hm (ha.below (by go_grown)) (hb.below (by go_grown))).mono ?_
  rintro e w' ⟨rfl, m, rfl⟩
  go_wp2_with fail
  go_ret
  exact ⟨rfl, below_draws (by go_grown) _⟩

set_option maxHeartbeats 1000000 in
theorem eqRunRS_same (x y : Nat) (n c d : Nat) (P : Nat → Int) (A B : Nat → Option Addr) (C D : Nat → Nat) (Z : Nat → List Int) (F G : Nat → Nat) (la ua lb ub : Nat) (w : World) (hm : n + took Z n ≤ 1048576) (hx : Own la ua w x n P A C Z F) (hy : Own lb ub w y n P B D Z G) :
    Calls Try.prog 84 #[.slice (some ⟨x, 0, none⟩) n c, .slice (some ⟨y, 0, none⟩) n d] w fun e w' => e = .returned (.bool true) ∧ Below w.heap.size w w' := by
  have hzl : ∀ i, i < n → (Z i).length ≤ 140737488351232 := fun i hi => by have := took_one Z i n hi; omega
  go_enter Try.func84, Try.ntmps84
  go_wp2_with fail
  go_loopw [5] (fun i wr => ∃ k : Nat, k ≤ n ∧ i = .int .i64 k ∧ Below w.heap.size w wr ∧ Own la ua wr x n P A C Z F ∧ Own lb ub wr y n P B D Z G) (fun i _ => n - (intOf i).toNat)
  case atStart => exact ⟨0, Nat.zero_le _, rfl, Below.refl _ _, hx, hy⟩
  case round =>
    obtain ⟨k, hk, rfl, g, hx, hy⟩ := hrel
    by_cases hlt : k < n
    · have hkn : (k : Int) < (n : Int) := by omega
      obtain ⟨p, hp⟩ : ∃ p, p = P k := ⟨_, rfl⟩
      obtain ⟨zs, hzs⟩ : ∃ zs, zs = Z k := ⟨_, rfl⟩
      have hzk := hzl k hlt
      have x0 := hx.c0 k hlt
      have x1 := hx.c1 k hlt
      have y0 := hy.c0 k hlt
      have y1 := hy.c1 k hlt
      have yx := hx.by' k hlt
      have yy := hy.by' k hlt
      rw [← hp] at x0 y0
      rw [← hzs] at x1 y1 yx yy hzk
      clear hp hzs
      have HS : Hid (∀ V, Below wr.heap.size wr V → V.cell? ⟨x, k * 2, none⟩ = some (.int .i64 p) ∧ V.cell? ⟨x, k * 2 + 1, none⟩ = some (.slice (A k) zs.length (C k)) ∧ V.cell? ⟨y, k * 2, none⟩ = some (.int .i64 p) ∧ V.cell? ⟨y, k * 2 + 1, none⟩ = some (.slice (B k) zs.length (D k))) := fun V hV =>
        ⟨(hV.cell (World.block_lt_of_cell? wr _ x0)).trans x0, (hV.cell (World.block_lt_of_cell? wr _ x1)).trans x1, (hV.cell (World.block_lt_of_cell? wr _ y0)).trans y0, (hV.cell (World.block_lt_of_cell? wr _ y1)).trans y1⟩
      go_wp2_with fail
      go_region_held (fun V => Below wr.heap.size wr V ∧ V.cell? ⟨x, k * 2, none⟩ = some (.int .i64 p) ∧ V.cell? ⟨x, k * 2 + 1, none⟩ = some (.slice (A k) zs.length (C k)) ∧ V.cell? ⟨y, k * 2, none⟩ = some (.int .i64 p) ∧ V.cell? ⟨y, k * 2 + 1, none⟩ = some (.slice (B k) zs.length (D k))) (first | exact eqKeepRRD HS.out (by assumption) | exact eqKeepR HS.out (Below.refl _ _) (by go_grown)) (first | (go_at_call 136; refine (eqRunR_same p (A k) (B k) _ _ _ _ zs zs.length (C k) (D k) _ rfl hzk (yx.below (by first | assumption | go_grown)) (yy.below (by first | assumption | go_grown))).mono ?_; rintro e w' ⟨rfl, hb⟩))
      rename_i hV
      have g : Below w.heap.size w w' := g.trans (hV.1.mono g.size)
      have hx := hx.below hV.1
      have hy := hy.below hV.1
      clear hV x0 x1 y0 y1 yx yy HS hb
      go_wp2_with fail
      go_roundw
      case rel => exact ⟨k + 1, by omega, by go_num, g, hx, hy⟩
      case measure => simp [intOf]; omega
    · go_wp2_with fail
      go_ret
      exact ⟨rfl, g⟩

end Go.Proofs.Yteebbaleejbodaa

/-
  A page as an array and as a slice, in memory: what the contracts over pages want.
-/
namespace Go.Proofs.Yteebbaleejbodaa
set_option maxRecDepth 20000
open Go.RowKit
set_option linter.unusedVariables false

theorem info58 : (Try.prog.info? 239).map (·.size) = some 64 := by kernel_rfl

section
variable {w w' : World} {b : Nat} {zs : List Int}

end

theorem built58 : Try.prog.built 239 [] = some (pgC (filled 0 0)) := by kernel_rfl

/-- Block g holds the 64 bytes zs first of all, and may be written. -/
structure Sl64 (w : World) (g : Nat) (zs : List Int) : Prop where
  len : zs.length = 64
  row : ∃ tl : List Value, w.heap[g]? = some (.cells (zs.map (Value.int .u8) ++ tl).toArray 5)

section
variable {w w' : World} {g : Nat} {zs : List Int}

theorem Sl64.lt (h : Sl64 w g zs) : g < w.heap.size := by obtain ⟨_, ht⟩ := h.row; exact (Array.getElem?_eq_some_iff.1 ht).1

theorem Sl64.below {B : Nat} (h : Sl64 w g zs) (hb : Below B w w') (hlt : g < B) : Sl64 w' g zs := ⟨h.len, by obtain ⟨tl, ht⟩ := h.row; exact ⟨tl, (hb.block g hlt).trans ht⟩⟩

theorem Sl64.grown (h : Sl64 w g zs) (hb : Below w.heap.size w w') : Sl64 w' g zs := h.below hb h.lt

theorem Sl64.cell (h : Sl64 w g zs) (i : Nat) (hi : i < 64) : w.cell? ⟨g, i, none⟩ = some (.int .u8 (zs.getD i 0)) := by
  obtain ⟨tl, ht⟩ := h.row
  have hl := h.len
  rw [cell_of_row w g i _ _ _ ht]
  simp [List.getElem?_append, hl, hi, List.getD]

theorem Sl64.frozen (h : Sl64 w g zs) (i : Nat) : w.frozen? ⟨g, i, none⟩ = false := by obtain ⟨tl, ht⟩ := h.row; simp [World.frozen?, ht]

theorem Sl64.bytes (h : Sl64 w g zs) {lo hi : Nat} (h1 : lo ≤ g) (h2 : g < hi) : BytesIn lo hi w (some ⟨g, 0, none⟩) zs :=
  .inr ⟨g, 0, rfl, h1, h2, fun i hi => by rw [Nat.zero_add]; exact h.cell i (by rw [← h.len]; exact hi), fun i _ => by rw [Nat.zero_add]; exact h.frozen i⟩

theorem Sl64.set (h : Sl64 w g zs) (i : Nat) (hi : i < 64) (v : Int) : Sl64 (w.setCell ⟨g, i, none⟩ (.int .u8 v)) g (zs.set i v) := by
  obtain ⟨tl, ht⟩ := h.row
  refine ⟨by rw [List.length_set]; exact h.len, tl, ?_⟩
  have hv : w.heap[g]'h.lt = .cells (zs.map (Value.int .u8) ++ tl).toArray 5 := (Array.getElem?_eq_some_iff.1 ht).2
  unfold World.setCell
  rw [Array.getElem?_eq_getElem (by simpa using h.lt), Array.getElem_modify]
  have hl := h.len
  simp [hv, List.set_append_left, hl, hi]

theorem Sl64.put (h : Sl64 w g zs) (off : Nat) (cs : List Int) (hfit : off + cs.length ≤ 64) (tl : List Value) (ht : w.heap[g]? = some (.cells (zs.map (Value.int .u8) ++ tl).toArray 5)) :
    Sl64 (w.setRow g ((zs.map (Value.int .u8) ++ tl).toArray.toList.take off ++ cs.map (Value.int .u8) ++ (zs.map (Value.int .u8) ++ tl).toArray.toList.drop (off + (cs.map (Value.int .u8)).length)).toArray) g (splice zs off cs) := by
  refine ⟨by rw [length_splice _ _ _ (by rw [h.len]; exact hfit)]; exact h.len, tl, ?_⟩
  rw [setRow_heap w g _ _ _ _ ht]
  have hl := h.len
  congr 2
  rw [List.length_map]
  simp only []
  rw [List.take_append_of_le_length (by simp; omega), List.drop_append_of_le_length (by simp; omega)]
  simp [splice]

end

set_option maxHeartbeats 1000000 in
theorem l2Copy_any (a : Option Addr) (zs : List Int) (c : Nat) (w : World) (hr : Reads w a zs) (h : zs.length = 64) :
    Calls Try.prog 122 #[.slice a 64 c] w fun e w' => ∃ g d, e = .returned (.slice (some ⟨g, 0, none⟩) 64 d) ∧ 64 ≤ d ∧ Below w.heap.size w w' ∧ w.heap.size ≤ g ∧ Sl64 w' g zs := by
  obtain ⟨i0, hi, hz0, hz1, hz2⟩ := info5
  obtain ⟨b, off, rfl⟩ : ∃ b off, a = some ⟨b, off, none⟩ := by
    rcases hr with hr | ⟨b, off, ha, _⟩
    · rw [hr] at h; simp at h
    · exact ⟨b, off, ha⟩
  have hO : (w.alloc (.cells #[] 5)).ownsRow w.heap.size 5 1 (.slice (some ⟨w.heap.size, 0, none⟩) 0 0) 0 [] := by simpa using World.ownsRow_lit (base := w.heap.size) (e := 5) (size := 1) w #[] 0 (Nat.le_refl _) (by unfold maxLen; omega) rfl
  have hl : (zs.map (Value.int .u8)).length = 64 * 1 := by simpa using h
  go_enter Try.func122, Try.ntmps122
  go_wp2_with (at_builtin; go_must (refine wpList_append_own _ rfl _ _ 106 rfl w.heap.size 5 i0 (.int .u8 0) 1 1 Try.underlying106 hi hz0 hz1 hz2 rfl (by decide) _ _ _ rfl hO ⟨b, off, none⟩ 64 c (zs.map (Value.int .u8)) rfl hl ?c1 ?c2 ?c3 ?c4 ?c5 ?_))
  case c1 =>
    intro j u hu
    exact reads_src (hr.below (B := w.heap.size) (by go_grown) (Nat.le_refl _)) j u hu
  case c2 =>
    intro u hu
    rw [List.mem_map] at hu
    obtain ⟨z, _, rfl⟩ := hu
    rfl
  case c3 => unfold maxLen; omega
  case c4 => omega
  case c5 => simp
  intro v' w1 hown' hgrow _
  have hB' : Below w.heap.size w w1 := Below.grown ((Below.refl _ _).alloc (Nat.le_refl _) _) hgrow (by simp) (fun j hj => by simp [Value.ownBlock] at hj; omega)
  clear hgrow
  go_wp2_with fail
  go_ret
  have hown : w1.ownsRow w.heap.size 5 1 v' 64 (zs.map (Value.int .u8)) := by simpa using hown'
  rcases hown.2 with ⟨_, h0⟩ | ⟨g, cap, cur, hv, hg0, hg, hcap, _, _, htk⟩
  · cases h0
  · refine ⟨g, cap, by rw [← hv]; rfl, by omega, hB', hg0, h, (cur.toList.drop (64 * 1)), ?_⟩
    rw [hg, ← htk, List.take_append_drop]

end Go.Proofs.Yteebbaleejbodaa
