/-
  The contracts of setSpan, writeCell and writeAheadOfLow: a page is written through a pointer.
-/
import Derived.Test.YtdgonddimenmdaaGreatQLawA
import Derived.Test.YtdgonddimenmdaaGreatQBas
import Derived.Laws.CopyOwn

namespace Go.Proofs.YtdgonddimenmdaaGreat
set_option maxRecDepth 20000
open Go.RowKit
set_option linter.unusedVariables false

/-- The slot s tells a place and a length. -/
def spanSet (zs : List Int) (s p l : Nat) : List Int := (zs.set (2 + 2 * s) (p : Int)).set (3 + 2 * s) (l : Int)

end Go.Proofs.YtdgonddimenmdaaGreat

/-
  The contract of writeCell: a cell is copied into a page, and its slot tells it.
-/
namespace Go.Proofs.YtdgonddimenmdaaGreat
set_option maxRecDepth 20000
open Go.RowKit
set_option linter.unusedVariables false

/-- Bytes are copied into a page. -/
theorem wp_copyPg {o : Oper} {a : Act} {w : World} {K : Act → World → Prop} {Q : Exit → Act → World → Prop} (d s : Operand)
    (ho : o.op = .call { callee := .builtin .copy, args := #[d, s], argTypes := #[22, 22] })
    (b off n dCap : Nat) (ad : Addr) (sCap : Nat) (hd : a.eval d = .slice (some ⟨b, off, none⟩) n dCap) (hs : a.eval s = .slice (some ad) n sCap)
    (zs cs : List Int) (hA : Arr w b zs) (hn : cs.length = n) (hsrc : ∀ j v, (cs.map (Value.int .u8))[j]? = some v → w.cell? (ad.add j) = some v) (hfit : off + n ≤ 64)
    (h : K (a.put o.dst (goInt n)) (w.setRow b (pgC (splice zs off cs)))) : o.wp Tryz.prog a w K Q := by
  have hinf : (Tryz.prog.info? 5).map (·.size) = some 1 := by kernel_rfl
  have hrun := run_copy_row (P := Tryz.prog) w 22 22 o.type 5 b off n dCap ad n sCap (pgC zs) 57 (cs.map (Value.int .u8)) Tryz.underlying22 hinf hA.row (by simp [hn]) hsrc (by rw [pgC_size, hA.len, List.length_map, hn]; exact hfit) (fun v hv => by
    rw [List.mem_map] at hv
    obtain ⟨z, _, rfl⟩ := hv
    rfl)
  have e : ((pgC zs).toList.take off ++ cs.map (Value.int .u8) ++ (pgC zs).toList.drop (off + (cs.map (Value.int .u8)).length)).toArray = pgC (splice zs off cs) := by
    simp [pgC, splice]
  rw [e, List.length_map, hn] at hrun
  unfold Oper.wp
  simp [execOp, ho, resolve, invoke, builtin, hd, hs, hrun, Result.andThen]
  exact h

def WcS (w : World) (b y p n : Nat) (V : World) : Prop := V.cell? ⟨y, 0, none⟩ = some (.int .u64 p) ∧ V.cell? ⟨y, 1, none⟩ = some (.int .u64 n) ∧ (∃ ys, Arr V b ys) ∧ Turned b (b + 1) w V
theorem wcKeep {w : World} {b y p n : Nat} {W V : World} (h : WcS w b y p n W) (hb : Below W.heap.size W V) : WcS w b y p n V := by
  obtain ⟨h1, h2, ⟨ys, h3⟩, h4⟩ := h
  have hy : y < W.heap.size := World.block_lt_of_cell? W _ h1
  exact ⟨(hb.cell (p := ⟨y, 0, none⟩) hy).trans h1, (hb.cell (p := ⟨y, 1, none⟩) hy).trans h2, ⟨ys, h3.grown hb⟩, h4.trans (Turned.ofBelow hb)⟩

end Go.Proofs.YtdgonddimenmdaaGreat

/-
  The contract of writeAheadOfLow.
-/
namespace Go.Proofs.YtdgonddimenmdaaGreat
set_option maxRecDepth 20000
open Go.RowKit
set_option linter.unusedVariables false

theorem mem_splice {zs cs : List Int} {p : Nat} {z : Int} (h : z ∈ splice zs p cs) : z ∈ zs ∨ z ∈ cs := by
  unfold splice at h
  rw [List.mem_append, List.mem_append] at h
  rcases h with h | h | h
  · exact .inl (List.mem_of_mem_take h)
  · exact .inr h
  · exact .inl (List.mem_of_mem_drop h)
theorem isPg_splice {zs cs : List Int} {p : Nat} (h : IsPg zs) (hc : ∀ z ∈ cs, 0 ≤ z ∧ z ≤ 255) (hl : p + cs.length ≤ 64) : IsPg (splice zs p cs) :=
  ⟨by rw [length_splice _ _ _ (by rw [h.len]; exact hl)]; exact h.len, fun z hz => by rcases mem_splice hz with h1 | h1; exact h.bd z h1; exact hc z h1⟩
theorem isPg_set {zs : List Int} (h : IsPg zs) (i v : Nat) (hv : v ≤ 255) : IsPg (zs.set i (v : Int)) :=
  ⟨by rw [List.length_set]; exact h.len, fun z hz => by
    rcases List.mem_or_eq_of_mem_set hz with h1 | h1
    · exact h.bd z h1
    · rw [h1]; omega⟩
theorem isPg_span {zs : List Int} (h : IsPg zs) (s p l : Nat) (hp : p ≤ 255) (hl : l ≤ 255) : IsPg (spanSet zs s p l) := isPg_set (isPg_set h _ p hp) _ l hl
theorem nb_set_same {zs : List Int} (i v : Nat) (hi : i < zs.length) : nb (zs.set i (v : Int)) i = v := by simp [nb, byt, List.getD, hi]
theorem nb_set_other {zs : List Int} (i j : Nat) (v : Int) (hij : i ≠ j) : nb (zs.set i v) j = nb zs j := by simp [nb, byt, List.getD, hij]
theorem nb_span_place {zs : List Int} (h : IsPg zs) (s p l : Nat) (hs : s < 31) : nb (spanSet zs s p l) (2 + 2 * s) = p := by
  unfold spanSet
  rw [nb_set_other _ _ _ (by omega), nb_set_same _ _ (by rw [h.len]; omega)]
theorem nb_span_len {zs : List Int} (h : IsPg zs) (s p l : Nat) (hs : s < 30) : nb (spanSet zs s p l) (3 + 2 * s) = l := by
  unfold spanSet
  rw [nb_set_same _ _ (by rw [List.length_set, h.len]; omega)]

def WaS (w : World) (b : Nat) (V : World) : Prop := (∃ xs, Arr V b xs) ∧ Turned b (b + 1) w V
theorem waKeep {w : World} {b : Nat} {W V : World} (h : WaS w b W) (hb : Below W.heap.size W V) : WaS w b V := ⟨⟨_, h.1.choose_spec.grown hb⟩, h.2.trans (Turned.ofBelow hb)⟩

/-- A page behind writeAheadOfLow. -/
def aheadP (zs : List Int) (s : Nat) (cs : List Int) : List Int := (spanSet (splice zs (nb zs 1 - cs.length) cs) s (nb zs 1 - cs.length) cs.length).set 1 ((nb zs 1 - cs.length : Nat) : Int)

end Go.Proofs.YtdgonddimenmdaaGreat

/-
  The contracts of the model's l2CellSize and l2Empty.
-/
namespace Go.Proofs.YtdgonddimenmdaaGreat
set_option maxRecDepth 20000
open Go.RowKit
set_option linter.unusedVariables false

set_option maxHeartbeats 1000000 in
theorem l2Empty_any (a : Option Addr) (zs : List Int) (c : Nat) (w : World) (hr : Reads w a zs) (h : Fine zs) :
    Calls Tryz.prog 61 #[.slice a 64 c] w fun e w' => e = .returned (.int .i64 (firstE zs 0 (nb zs 0))) ∧ w' = w := by
  have hc := h.few
  obtain ⟨n, hn⟩ : ∃ n, n = nb zs 0 := ⟨_, rfl⟩
  have HN : Hid (nb zs 0 = n) := hn.symm
  rw [← hn] at hc ⊢
  clear hn
  go_enter Tryz.func61, Tryz.ntmps61
  go_wp2_with fail
  go_loop [3] (fun i => ∃ k : Nat, k ≤ n ∧ i = .int .i64 k ∧ Hid (firstE zs 0 n = firstE zs k (n - k))) (fun i => n - (intOf i).toNat)
  case atStart => exact ⟨0, by omega, rfl, rfl⟩
  case round =>
    obtain ⟨k, hk, rfl, HF⟩ := hrel
    go_wp2_with fail
    refine (l2Count_any a zs c _ hr h.pg).mono ?_
    rintro e w' ⟨rfl, rfl⟩
    rw [HN.out]
    by_cases hlt : k < n
    · have hi : (k : Int) < (n : Int) := by omega
      go_wp2_with fail
      refine (l2Size_any a zs c k _ hr h.pg (by omega)).mono ?_
      rintro e w' ⟨rfl, rfl⟩
      have hpl := h.place k (by rw [HN.out]; exact hlt)
      cases hE : empB zs k
      · have HS : Hid (firstE zs 0 n = firstE zs (k + 1) (n - (k + 1))) := by
          show _ = _
          rw [HF.out, show n - k = n - (k + 1) + 1 by omega, firstE, hE]
          rfl
        have hl : nb zs (3 + 2 * k) ≠ 0 := by
          rcases hpl with ⟨h1, h2⟩ | h1
          · simp [empB, h1, h2] at hE
          · exact h1.2.1
        obtain ⟨l, hll⟩ : ∃ l, l = nb zs (3 + 2 * k) := ⟨_, rfl⟩
        rw [← hll] at hl ⊢
        have dl : ((l : Int) == 0) = false := by simp; omega
        clear hE hll hl hpl
        go_wp2_with fail
        go_round
        case rel => exact ⟨k + 1, by omega, by go_num, HS⟩
        case measure => simp [intOf]; omega
      · have HS : Hid (firstE zs 0 n = k) := by
          show _ = _
          rw [HF.out, show n - k = n - (k + 1) + 1 by omega, firstE, hE]
          rfl
        have hl : nb zs (3 + 2 * k) = 0 := by simp [empB] at hE; exact hE.2
        rw [hl]
        clear hE hl hpl
        go_wp2_with fail
        go_ret
        exact ⟨by rw [HS.out]; rfl, rfl⟩
    · have e : k = n := by omega
      subst e
      go_wp2_with fail
      refine (l2Count_any a zs c _ hr h.pg).mono ?_
      rintro e w' ⟨rfl, rfl⟩
      rw [HN.out]
      go_wp2_with fail
      go_ret
      exact ⟨by rw [HF.out, Nat.sub_self]; rfl, rfl⟩

end Go.Proofs.YtdgonddimenmdaaGreat

/-
  The contracts of the model's l2Copy and l2Stand: a page copied, and a cell put into the copy.
-/
namespace Go.Proofs.YtdgonddimenmdaaGreat
set_option maxRecDepth 20000
open Go.RowKit
set_option linter.unusedVariables false

/-- Block g holds the 64 bytes zs first of all, and may be written. -/
structure Sl64 (w : World) (g : Nat) (zs : List Int) : Prop where
  len : zs.length = 64
  row : ∃ tl : List Value, w.heap[g]? = some (.cells (zs.map (Value.int .u8) ++ tl).toArray 5)

section
variable {w w' : World} {g : Nat} {zs : List Int}
theorem Sl64.lt (h : Sl64 w g zs) : g < w.heap.size := by obtain ⟨_, ht⟩ := h.row; exact (Array.getElem?_eq_some_iff.1 ht).1
theorem Sl64.below {B : Nat} (h : Sl64 w g zs) (hb : Below B w w') (hlt : g < B) : Sl64 w' g zs := ⟨h.len, by obtain ⟨tl, ht⟩ := h.row; exact ⟨tl, (hb.block g hlt).trans ht⟩⟩
theorem Sl64.grown (h : Sl64 w g zs) (hb : Below w.heap.size w w') : Sl64 w' g zs := h.below hb h.lt
theorem Sl64.cell (h : Sl64 w g zs) (i : Nat) (hi : i < 64) : w.cell? ⟨g, i, none⟩ = some (.int .u8 (zs.getD i 0)) := by
  obtain ⟨tl, ht⟩ := h.row
  have hl := h.len
  rw [cell_of_row w g i _ _ _ ht]
  simp [List.getElem?_append, hl, hi, List.getD]
theorem Sl64.frozen (h : Sl64 w g zs) (i : Nat) : w.frozen? ⟨g, i, none⟩ = false := by obtain ⟨tl, ht⟩ := h.row; simp [World.frozen?, ht]
theorem Sl64.bytes (h : Sl64 w g zs) {lo hi : Nat} (h1 : lo ≤ g) (h2 : g < hi) : BytesIn lo hi w (some ⟨g, 0, none⟩) zs :=
  .inr ⟨g, 0, rfl, h1, h2, fun i hi => by rw [Nat.zero_add]; exact h.cell i (by rw [← h.len]; exact hi), fun i _ => by rw [Nat.zero_add]; exact h.frozen i⟩
theorem Sl64.set (h : Sl64 w g zs) (i : Nat) (hi : i < 64) (v : Int) : Sl64 (w.setCell ⟨g, i, none⟩ (.int .u8 v)) g (zs.set i v) := by
  obtain ⟨tl, ht⟩ := h.row
  refine ⟨by rw [List.length_set]; exact h.len, tl, ?_⟩
  have hv : w.heap[g]'h.lt = .cells (zs.map (Value.int .u8) ++ tl).toArray 5 := (Array.getElem?_eq_some_iff.1 ht).2
  unfold World.setCell
  rw [Array.getElem?_eq_getElem (by simpa using h.lt), Array.getElem_modify]
  have hl := h.len
  simp [hv, List.set_append_left, hl, hi]
theorem Sl64.put (h : Sl64 w g zs) (off : Nat) (cs : List Int) (hfit : off + cs.length ≤ 64) (tl : List Value) (ht : w.heap[g]? = some (.cells (zs.map (Value.int .u8) ++ tl).toArray 5)) :
    Sl64 (w.setRow g ((zs.map (Value.int .u8) ++ tl).toArray.toList.take off ++ cs.map (Value.int .u8) ++ (zs.map (Value.int .u8) ++ tl).toArray.toList.drop (off + (cs.map (Value.int .u8)).length)).toArray) g (splice zs off cs) := by
  refine ⟨by rw [length_splice _ _ _ (by rw [h.len]; exact hfit)]; exact h.len, tl, ?_⟩
  rw [setRow_heap w g _ _ _ _ ht]
  have hl := h.len
  congr 2
  rw [List.length_map]
  simp only []
  rw [List.take_append_of_le_length (by simp; omega), List.drop_append_of_le_length (by simp; omega)]
  simp [splice]
end

set_option maxHeartbeats 1000000 in
theorem l2Copy_any (a : Option Addr) (zs : List Int) (c : Nat) (w : World) (hr : Reads w a zs) (h : zs.length = 64) :
    Calls Tryz.prog 65 #[.slice a 64 c] w fun e w' => ∃ g d, e = .returned (.slice (some ⟨g, 0, none⟩) 64 d) ∧ 64 ≤ d ∧ Below w.heap.size w w' ∧ w.heap.size ≤ g ∧ Sl64 w' g zs := by
  obtain ⟨i0, hi, hz0, hz1, hz2⟩ := info5
  obtain ⟨b, off, rfl⟩ : ∃ b off, a = some ⟨b, off, none⟩ := by
    rcases hr with hr | ⟨b, off, ha, _⟩
    · rw [hr] at h; simp at h
    · exact ⟨b, off, ha⟩
  have hO : (w.alloc (.cells #[] 5)).ownsRow w.heap.size 5 1 (.slice (some ⟨w.heap.size, 0, none⟩) 0 0) 0 [] := by simpa using World.ownsRow_lit (base := w.heap.size) (e := 5) (size := 1) w #[] 0 (Nat.le_refl _) (by unfold maxLen; omega) rfl
  have hl : (zs.map (Value.int .u8)).length = 64 * 1 := by simpa using h
  go_enter Tryz.func65, Tryz.ntmps65
  go_wp2_with (at_builtin; go_must (refine wpList_append_own _ rfl _ _ 22 rfl w.heap.size 5 i0 (.int .u8 0) 1 1 Tryz.underlying22 hi hz0 hz1 hz2 rfl (by decide) _ _ _ rfl hO ⟨b, off, none⟩ 64 c (zs.map (Value.int .u8)) rfl hl ?c1 ?c2 ?c3 ?c4 ?c5 ?_))
  case c1 =>
    intro j u hu
    exact reads_src (hr.below (B := w.heap.size) (by go_grown) (Nat.le_refl _)) j u hu
  case c2 =>
    intro u hu
    rw [List.mem_map] at hu
    obtain ⟨z, _, rfl⟩ := hu
    rfl
  case c3 => unfold maxLen; omega
  case c4 => omega
  case c5 => simp
  intro v' w1 hown' hgrow _
  have hB' : Below w.heap.size w w1 := Below.grown ((Below.refl _ _).alloc (Nat.le_refl _) _) hgrow (by simp) (fun j hj => by simp [Value.ownBlock] at hj; omega)
  clear hgrow
  go_wp2_with fail
  go_ret
  have hown : w1.ownsRow w.heap.size 5 1 v' 64 (zs.map (Value.int .u8)) := by simpa using hown'
  rcases hown.2 with ⟨_, h0⟩ | ⟨g, cap, cur, hv, hg0, hg, hcap, _, _, htk⟩
  · cases h0
  · refine ⟨g, cap, by rw [← hv]; rfl, by omega, hB', hg0, h, (cur.toList.drop (64 * 1)), ?_⟩
    rw [hg, ← htk, List.take_append_drop]

set_option maxHeartbeats 1000000 in
theorem l2Stand_any (g d s p n sb so c : Nat) (zs cs : List Int) (w : World) (hA : Sl64 w g zs) (hd : 64 ≤ d) (hn : cs.length = n) (h1 : 1 ≤ n) (h64 : p + n ≤ 64) (hs : s < 30) (hr : Reads w (some ⟨sb, so, none⟩) cs) :
    Calls Tryz.prog 66 #[.slice (some ⟨g, 0, none⟩) 64 d, .int .i64 s, .int .i64 p, .slice (some ⟨sb, so, none⟩) n c] w fun e w' => e = .returned (.tuple #[]) ∧ Turned g (g + 1) w w' ∧ Sl64 w' g (spanSet (splice zs p cs) s p n) := by
  have hinf : (Tryz.prog.info? 5).map (·.size) = some 1 := by kernel_rfl
  obtain ⟨tl, ht⟩ := hA.row
  have hput := hA.put p cs (by rw [hn]; exact h64) tl ht
  have hsrc := reads_src hr
  have hmin : (cs.map (Value.int .u8)).length = Nat.min n (64 - p) := by rw [List.length_map, hn]; show n = min n (64 - p); omega
  have hfit : p + (cs.map (Value.int .u8)).length ≤ (zs.map (Value.int .u8) ++ tl).toArray.size := by simp [hn, hA.len]; omega
  have hone : ∀ v ∈ cs.map (Value.int .u8), v.oneCell' = true := fun v hv => by
    rw [List.mem_map] at hv
    obtain ⟨z, _, rfl⟩ := hv
    rfl
  have hdp : ¬ (d = p) := by omega
  have i1 : (p : Int) ≤ 64 := by omega
  have i2 : (p : Int) ≤ (d : Int) := by omega
  have HSrc : Hid (∀ j u, (cs.map (Value.int .u8))[j]? = some u → w.cell? ((⟨sb, so, none⟩ : Addr).add j) = some u) := hsrc
  have HMin : Hid ((cs.map (Value.int .u8)).length = Nat.min n (64 - p)) := hmin
  have HFit : Hid (p + (cs.map (Value.int .u8)).length ≤ (zs.map (Value.int .u8) ++ tl).toArray.size) := hfit
  have HOne : Hid (∀ v ∈ cs.map (Value.int .u8), v.oneCell' = true) := hone
  have HT : Hid (w.heap[g]? = some (.cells (zs.map (Value.int .u8) ++ tl).toArray 5)) := ht
  have HPut : Hid (Sl64 (w.setRow g ((zs.map (Value.int .u8) ++ tl).toArray.toList.take p ++ cs.map (Value.int .u8) ++ (zs.map (Value.int .u8) ++ tl).toArray.toList.drop (p + (cs.map (Value.int .u8)).length)).toArray) g (splice zs p cs)) := hput
  clear hsrc hmin hfit hone ht hput hr hn
  have hglt := hA.lt
  go_enter Tryz.func66, Tryz.ntmps66
  go_upto_region 1 with (refine wpList_copy_own rfl _ _ 22 22 rfl 5 Tryz.underlying22 hinf g p (64 - p) (d - p) ⟨sb, so, none⟩ n c rfl rfl _ 5 HT.out (cs.map (Value.int .u8)) HMin.out HSrc.out HFit.out HOne.out ?_)
  rw [← List.append_assoc]
  have hP := HPut.out
  have htP : ∀ cs', Turned g (g + 1) w (w.setRow g cs') := fun cs' => ⟨rfl, rfl, rfl, by rw [setRow_size]; exact Nat.le_refl _, fun k hk hn => setRow_other _ g k _ (by omega)⟩
  have htP := htP ((zs.map (Value.int .u8) ++ tl).toArray.toList.take p ++ cs.map (Value.int .u8) ++ (zs.map (Value.int .u8) ++ tl).toArray.toList.drop (p + (cs.map (Value.int .u8)).length)).toArray
  generalize hV : w.setRow g _ = V at hP htP ⊢
  clear hV HPut HT HFit HSrc HMin HOne
  obtain ⟨ys, hys⟩ : ∃ ys, ys = splice zs p cs := ⟨_, rfl⟩
  have HYS : Hid (ys = splice zs p cs) := hys
  rw [← hys] at hP
  clear hys
  have c0 := hP.cell (2 + 2 * s) (by omega)
  have f0 := hP.frozen (2 + 2 * s)
  have j1 : (2 : Int) + 2 * (s : Int) < 64 := by omega
  have j2 : ((2 : Int) + 2 * (s : Int)).toNat = 2 + 2 * s := by omega
  go_upto_region 2 with (fail)
  have hP2 := hP.set (2 + 2 * s) (by omega) (p : Int)
  have htP2 := htP.setCell (p := ⟨g, 2 + 2 * s, none⟩) (Nat.le_refl _) (by simp) (.int .u8 (p : Int))
  clear c0 f0 j1 j2
  generalize V.setCell ⟨g, 2 + 2 * s, none⟩ (.int .u8 (p : Int)) = V2 at hP2 htP2 ⊢
  have c0 := hP2.cell (3 + 2 * s) (by omega)
  have f0 := hP2.frozen (3 + 2 * s)
  have j1 : (3 : Int) + 2 * (s : Int) < 64 := by omega
  have j2 : ((3 : Int) + 2 * (s : Int)).toNat = 3 + 2 * s := by omega
  go_wp2_with fail
  go_end0
  exact ⟨rfl, htP2.setCell (Nat.le_refl _) (by simp) _, by rw [← HYS.out]; exact hP2.set (3 + 2 * s) (by omega) (n : Int)⟩

end Go.Proofs.YtdgonddimenmdaaGreat

/-
  The contract of the model's l2Put on a page without a fault.
-/
namespace Go.Proofs.YtdgonddimenmdaaGreat
set_option maxRecDepth 20000
open Go.RowKit
set_option linter.unusedVariables false

theorem firstE_le (zs : List Int) : ∀ m k, firstE zs k m ≤ k + m
  | 0, k => Nat.le_refl _
  | m + 1, k => by
    rw [firstE]
    split
    · omega
    · have := firstE_le zs m (k + 1); omega
/-- The slot that a cell is put into, how many slots there are then, and what more room they take. -/
def putS (zs : List Int) : Nat := firstE zs 0 (nb zs 0)
def putM (zs : List Int) : Nat := if putS zs = nb zs 0 then nb zs 0 + 1 else nb zs 0
def putMore (zs : List Int) : Nat := if putS zs = nb zs 0 then 2 else 0
/-- The code of a put of n bytes. -/
def putQ (zs : List Int) (n : Nat) : Int := if putS zs = nb zs 0 ∧ 16 ≤ nb zs 0 then 2 else if freeN zs < n + putMore zs then 9 else if nb zs 1 < n + (2 + 2 * putM zs) then 8 else 0
/-- The page behind a put. -/
def putP (zs : List Int) (cs : List Int) : List Int := spanSet (splice ((zs.set 0 ((putM zs : Nat) : Int)).set 1 ((nb zs 1 - cs.length : Nat) : Int)) (nb zs 1 - cs.length) cs) (putS zs) (nb zs 1 - cs.length) cs.length

set_option maxHeartbeats 2000000 in
theorem l2Put_many (a : Option Addr) (zs : List Int) (c : Nat) (b : Option Addr) (n d : Nat) (w : World) (hr : Reads w a zs) (h : Fine zs) (hs : putS zs = nb zs 0 ∧ 16 ≤ nb zs 0) :
    Calls Tryz.prog 34 #[.slice a 64 c, .slice b n d] w fun e w' => e = .returned (.tuple #[.slice none 0 0, .int .i64 0, .int .i64 2]) ∧ w' = w := by
  obtain ⟨k, hk⟩ : ∃ k, k = nb zs 0 := ⟨_, rfl⟩
  have HK : Hid (nb zs 0 = k) := hk.symm
  have HS : Hid (firstE zs 0 (nb zs 0) = k) := by show _ = _; rw [hk]; exact hs.1
  have h16 : 16 ≤ k := by rw [hk]; exact hs.2
  have h16' : (16 : Int) ≤ (k : Int) := by omega
  clear hk hs
  go_enter Tryz.func34, Tryz.ntmps34
  go_wp2_with fail
  refine (l2Empty_any a zs c _ hr h).mono ?_
  rintro e w' ⟨rfl, rfl⟩
  rw [HS.out]
  go_wp2_with fail
  refine (l2Count_any a zs c _ hr h.pg).mono ?_
  rintro e w' ⟨rfl, rfl⟩
  rw [HK.out]
  go_wp2_with fail
  go_ret3
  exact ⟨rfl, rfl⟩

set_option maxHeartbeats 4000000 in
theorem l2Put_full (a : Option Addr) (zs : List Int) (c : Nat) (b : Option Addr) (n d : Nat) (w : World) (hr : Reads w a zs) (h : Fine zs) (hn : n ≤ 1048576) (hs : ¬ (putS zs = nb zs 0 ∧ 16 ≤ nb zs 0)) (hfull : freeN zs < n + putMore zs ∨ nb zs 1 < n + (2 + 2 * putM zs)) :
    Calls Tryz.prog 34 #[.slice a 64 c, .slice b n d] w fun e w' => e = .returned (.tuple #[.slice none 0 0, .int .i64 0, .int .i64 (if freeN zs < n + putMore zs then 9 else 8)]) ∧ w' = w := by
  obtain ⟨k, hk⟩ : ∃ k, k = nb zs 0 := ⟨_, rfl⟩
  obtain ⟨s, hsv⟩ : ∃ s, s = putS zs := ⟨_, rfl⟩
  obtain ⟨f, hf⟩ : ∃ f, f = freeN zs := ⟨_, rfl⟩
  obtain ⟨low, hlw⟩ : ∃ low, low = nb zs 1 := ⟨_, rfl⟩
  have hlb := h.low
  have hkf := h.few
  have HK : Hid (nb zs 0 = k) := hk.symm
  have HS : Hid (firstE zs 0 (nb zs 0) = s) := hsv.symm
  have HFr : Hid (freeN zs = f) := hf.symm
  have HLo : Hid (nb zs 1 = low) := hlw.symm
  rw [← hk] at hkf
  rw [← hlw] at hlb
  have hf64 : f ≤ 64 := by rw [hf]; unfold freeN; omega
  by_cases hsk : s = k
  · have hmo : putMore zs = 2 := by unfold putMore; rw [← hsv, ← hk, if_pos hsk]
    have hmm : putM zs = k + 1 := by unfold putM; rw [← hsv, ← hk, if_pos hsk]
    have hk16 : k < 16 := by rw [← hsv, ← hk] at hs; omega
    rw [hmo, hmm, ← hf, ← hlw] at hfull
    rw [hmo, ← hf]
    clear hs hk hsv hf hlw hmo hmm
    subst hsk
    have hd16 : decide ((16 : Int) ≤ (s : Int)) = false := by simp; omega
    have hi16 : ¬ (16 : Int) ≤ (s : Int) := by omega
    go_enter Tryz.func34, Tryz.ntmps34
    go_wp2_with fail
    refine (l2Empty_any a zs c _ hr h).mono ?_
    rintro e w' ⟨rfl, hw'⟩
    subst w'
    rw [HS.out]
    go_wp2_with fail
    refine (l2Count_any a zs c _ hr h.pg).mono ?_
    rintro e w' ⟨rfl, hw'⟩
    subst w'
    rw [HK.out]
    go_wp2_with fail
    refine (l2Free_any a zs c _ hr h).mono ?_
    rintro e w' ⟨rfl, hw'⟩
    subst w'
    rw [HFr.out]
    by_cases hq : f < n + 2
    · have df : (f : Int) < (n : Int) + 2 := by omega
      have df2 : decide ((f : Int) < (n : Int) + 2) = true := by simpa using df
      have HI : Hid ((if f < n + 2 then (9 : Int) else 8) = 9) := if_pos hq
      go_wp2_with fail
      go_ret3
      exact ⟨by first | rfl | (rw [HI.out]; rfl) | (simp only [HI.out]; rfl) | (simp [hq]), rfl⟩
    · have df : ¬ (f : Int) < (n : Int) + 2 := by omega
      have df2 : decide ((f : Int) < (n : Int) + 2) = false := by simpa using df
      have hst : low < n + (2 + 2 * (s + 1)) := by omega
      have HI : Hid ((if f < n + 2 then (9 : Int) else 8) = 8) := if_neg hq
      clear hfull
      go_wp2_with fail
      refine (l2Low_any a zs c _ hr h.pg).mono ?_
      rintro e w' ⟨rfl, hw'⟩
      subst w'
      rw [HLo.out]
      have dl : (low : Int) - (n : Int) < 2 + 2 * ((s : Int) + 1) := by omega
      go_wp2_with fail
      go_ret3
      exact ⟨by first | rfl | (rw [HI.out]; rfl) | (simp only [HI.out]; rfl) | (simp [hq]), rfl⟩
  · have hmo : putMore zs = 0 := by unfold putMore; rw [← hsv, ← hk, if_neg hsk]
    have hmm : putM zs = k := by unfold putM; rw [← hsv, ← hk, if_neg hsk]
    rw [hmo, hmm, ← hf, ← hlw] at hfull
    rw [hmo, ← hf]
    clear hs hk hsv hf hlw hmo hmm
    have hde : ((s : Int) == (k : Int)) = false := by simp; omega
    go_enter Tryz.func34, Tryz.ntmps34
    go_wp2_with fail
    refine (l2Empty_any a zs c _ hr h).mono ?_
    rintro e w' ⟨rfl, hw'⟩
    subst w'
    rw [HS.out]
    go_wp2_with fail
    refine (l2Count_any a zs c _ hr h.pg).mono ?_
    rintro e w' ⟨rfl, hw'⟩
    subst w'
    rw [HK.out]
    go_wp2_with fail
    refine (l2Free_any a zs c _ hr h).mono ?_
    rintro e w' ⟨rfl, hw'⟩
    subst w'
    rw [HFr.out]
    by_cases hq : f < n + 0
    · have df : (f : Int) < (n : Int) + 0 := by omega
      have df2 : decide ((f : Int) < (n : Int) + 0) = true := by simpa using df
      have HI : Hid ((if f < n + 0 then (9 : Int) else 8) = 9) := if_pos hq
      go_wp2_with fail
      go_ret3
      exact ⟨by first | rfl | (rw [HI.out]; rfl) | (simp only [HI.out]; rfl) | (simp [hq]), rfl⟩
    · have df : ¬ (f : Int) < (n : Int) + 0 := by omega
      have df2 : decide ((f : Int) < (n : Int) + 0) = false := by simpa using df
      have hst : low < n + (2 + 2 * k) := by omega
      have HI : Hid ((if f < n + 0 then (9 : Int) else 8) = 8) := if_neg hq
      clear hfull
      go_wp2_with fail
      refine (l2Low_any a zs c _ hr h.pg).mono ?_
      rintro e w' ⟨rfl, hw'⟩
      subst w'
      rw [HLo.out]
      have dl : (low : Int) - (n : Int) < 2 + 2 * (k : Int) := by omega
      go_wp2_with fail
      go_ret3
      exact ⟨by first | rfl | (rw [HI.out]; rfl) | (simp only [HI.out]; rfl) | (simp [hq]), rfl⟩

end Go.Proofs.YtdgonddimenmdaaGreat
